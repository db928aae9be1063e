/- A node's lists: the program. -/
import Derived.Test.YtagmidolcdefiahPk16
namespace Go.Proofs.Ytagmidolcdefiah
open Go.RowKit Go.Shelf
/-- what holds while the lists are gathered; ab: the node that is next -/
structure Lk (D : Nat → Prop) (W wr : World) (s : Sn) (b : List (List Int)) (g : Nat) (us : List Value) (p : List (List Int)) : Prop where
  ow : OW wr (W.heap.size + 1) g us p
  bel : Below W.heap.size W wr
  kb : W.heap.size + 1 ≤ wr.heap.size
/-- the node that is next -/
def Nxt (D : Nat → Prop) (W wr : World) (s : Sn) (b p : List (List Int)) (v : Value) (dd : Nat) : Prop :=
  (v = .pointer none ∧ dd = 0 ∧ p.map List.reverse = b) ∨
  ∃ (ab d : Nat) (e : En), v = .pointer (some ⟨ab, 0, none⟩) ∧ dd = d + 1 ∧ NK wr ab (e.c s) ∧ ab < W.heap.size + 1 ∧ Pth s D W e.pa e.wt e.nd d ∧ Gat s b p e.nd.b ∧ e.nd.k < s.cs.length
theorem Nxt.nil {D : Nat → Prop} {W wr : World} {s : Sn} {b p : List (List Int)} (h : p.map List.reverse = b) : Nxt D W wr s b p (.pointer none) 0 := Or.inl ⟨rfl, rfl, h⟩
theorem Nxt.node {D : Nat → Prop} {W wr : World} {s : Sn} {b p : List (List Int)} {ab d : Nat} {e : En} (nk : NK wr ab (e.c s)) (hab : ab < W.heap.size + 1) (h : Pth s D W e.pa e.wt e.nd d) (g : Gat s b p e.nd.b) (hk : e.nd.k < s.cs.length) : Nxt D W wr s b p (.pointer (some ⟨ab, 0, none⟩)) (d + 1) :=
  Or.inr ⟨ab, d, e, rfl, rfl, nk, hab, h, g, hk⟩
/-- the first c lists turned round -/
def rvc (p : List (List Int)) (c : Nat) : List (List Int) := (p.take c).map List.reverse ++ p.drop c
theorem rvc_zero (p : List (List Int)) : rvc p 0 = p := by unfold rvc; simp
theorem rvc_end (p : List (List Int)) : rvc p p.length = p.map List.reverse := by unfold rvc; simp
theorem rvc_length (p : List (List Int)) (c : Nat) : (rvc p c).length = p.length := by unfold rvc; simp; omega
theorem rvc_at {p : List (List Int)} {c : Nat} {l : List Int} (h : p[c]? = some l) : (rvc p c)[c]? = some l := by
  have hc : c < p.length := (List.getElem?_eq_some_iff.1 h).1
  unfold rvc
  rw [List.getElem?_append_right (by simp; omega), List.length_map, List.length_take, show c - min c p.length = 0 by omega, List.getElem?_drop, Nat.add_zero, h]
theorem rvc_succ {p : List (List Int)} {c : Nat} {l : List Int} (h : p[c]? = some l) : (rvc p c).set c l.reverse = rvc p (c + 1) := by
  have hc : c < p.length := (List.getElem?_eq_some_iff.1 h).1
  unfold rvc
  rw [List.set_append_right _ _ (by simp; omega), List.length_map, List.length_take, show c - min c p.length = 0 by omega, List.drop_eq_getElem_cons hc, List.set_cons_zero, take_snoc h, List.map_append, List.append_assoc]
  rfl
section
variable {D : Nat → Prop} {W : World} {tb d : Nat} {s : Sn} {vc vw vb : Value} {e : En}
set_option maxRecDepth 100000 in
set_option maxHeartbeats 8000000 in
theorem lists_any (ht : TR D W tb s vc vw vb) (hp : Pth s D W e.pa e.wt e.nd d) (ok : e.nd.ok s) :
    Calls Try.prog 41 #[.pointer (some ⟨tb, 0, none⟩), .agg (e.c s).toArray] W fun r w' => Below W.heap.size W w' ∧ ∃ v, r = .returned v ∧ RL (fun g => W.heap.size ≤ g) w' v e.nd.b := by
  have hb0 := (Below.refl W.heap.size W).alloc (Nat.le_refl _) (.cells (e.c s).toArray 97)
  have HNK := Hid.intro' (NK.new W (En.len s e))
  have HB0 := Hid.intro' hb0
  have HS0 : Hid ((W.alloc (.cells (e.c s).toArray 97)).heap.size = W.heap.size + 1) := by show _ = _; simp
  obtain ⟨ac, kc, rfl, _, _⟩ := ht.cs.form
  have c13 : (W.alloc (.cells (e.c s).toArray 97)).cell? ⟨tb, 13, none⟩ = some (.slice ac s.cs.length kc) := (ht.below' hb0).c13
  obtain ⟨n8, hrs⟩ := rgt_rs ht.rg
  have hwl : s.ws.length ≤ 128 := hrs.wl
  have hcl : s.cs.length ≤ 8 := by have := hrs.cl; have := hrs.n8; omega
  have hmk := mkL s.cs.length (by omega)
  have HP := Hid.intro' hp
  have HOK := Hid.intro' ok
  have HLL := Hid.intro' ok.ll
  clear ht hp ok hrs hb0
  go_enter Try.func41, Try.ntmps41
  go_wp2_with fail
  clear c13 hmk
  generalize W.alloc (.cells (e.c s).toArray 97) = X at HNK HB0 HS0 ⊢
  have hbY := (Below.refl X.heap.size X).alloc (Nat.le_refl _) (.cells (Array.replicate s.cs.length (Value.slice none 0 0)) 55)
  have HL0 : Hid (Lk D W (X.alloc (.cells (Array.replicate s.cs.length (Value.slice none 0 0)) 55)) s e.nd.b (W.heap.size + 1) (List.replicate s.cs.length (Value.slice none 0 0)) (List.replicate s.cs.length [])) := by
    have := OW.make (B := W.heap.size + 1) X s.cs.length (by rw [HS0.out]; exact Nat.le_refl _)
    rw [List.toArray_replicate, HS0.out] at this
    exact ⟨this, below_class HB0.out hbY, by simp; have := HS0.out; omega⟩
  have HN0 : Hid (Nxt D W (X.alloc (.cells (Array.replicate s.cs.length (Value.slice none 0 0)) 55)) s e.nd.b (List.replicate s.cs.length []) (.pointer (some ⟨W.heap.size, 0, none⟩)) (d + 1)) :=
    .node (HNK.out.below' hbY) (by omega) HP.out (Gat.start HOK.out.bl) (by have := HOK.out.kl; have := HOK.out.bl; omega)
  clear hbY HNK HB0
  generalize X.alloc (.cells (Array.replicate s.cs.length (Value.slice none 0 0)) 55) = Y at HL0 HN0 ⊢
  have HDM := Hid.intro' HP.out.dm
  clear HP
  go_loopw [6] (fun av wr => ∃ (us : List Value) (p : List (List Int)) (dd : Nat), Hid (Nxt D W wr s e.nd.b p av dd) ∧ Hid (Lk D W wr s e.nd.b (W.heap.size + 1) us p)) (fun av wr => chl wr 1000 av)
  case atStart => exact ⟨_, _, _, HN0, HL0⟩
  case round =>
    clear HN0 HL0
    obtain ⟨us, p, dd, HN, HL⟩ := hrel
    have hn := HN.out
    clear HN
    rcases hn with ⟨rfl, rfl, hpb⟩ | ⟨ab, dd, e', rfl, rfl, nk, hab, h, g, hk⟩
    · skip
      have HPL : Hid (p.length = s.cs.length) := by
        have := congrArg List.length hpb
        rw [List.length_map, HOK.out.bl] at this
        exact this
      have HPM : Hid (∀ l ∈ p, l.length ≤ 128) := fun l hl => by
        have := HLL.out l.reverse (by rw [← hpb]; exact List.mem_map.2 ⟨l, hl, rfl⟩)
        rwa [List.length_reverse] at this
      have HPB := Hid.intro' hpb
      clear hpb
      have HR0 : Hid (OW wr (W.heap.size + 1) (W.heap.size + 1) us (rvc p 0) ∧ Below W.heap.size W wr) := ⟨by rw [rvc_zero]; exact HL.out.ow, HL.out.bel⟩
      clear HL
      go_wp2_with fail
      generalize wr = V at HR0 ⊢
      go_loopw [48] (fun iv wr => ∃ c : Nat, c ≤ s.cs.length ∧ iv = .int .i64 (c : Int) ∧ Hid (OW wr (W.heap.size + 1) (W.heap.size + 1) us (rvc p c) ∧ Below W.heap.size W wr)) (fun iv _ => s.cs.length - (intOf iv).toNat)
      case atStart => exact ⟨0, Nat.zero_le _, rfl, HR0⟩
      case round =>
        clear HR0
        obtain ⟨c, hc, rfl, HR⟩ := hrel
        by_cases hlt : c < s.cs.length
        · have hcz : (c : Int) < (s.cs.length : Int) := by omega
          obtain ⟨l, hl⟩ : ∃ l, p[c]? = some l := ⟨_, List.getElem?_eq_getElem (by rw [HPL.out]; exact hlt)⟩
          have hl2 : (rvc p c)[c]? = some l := rvc_at hl
          obtain ⟨u, hu⟩ : ∃ u, us[c]? = some u := ⟨_, List.getElem?_eq_getElem (by rw [HR.out.1.len, rvc_length, HPL.out]; exact hlt)⟩
          have ou := HR.out.1.li c u l hu hl2
          have cu : wr.cell? ⟨W.heap.size + 1, c, none⟩ = some u := (blk_cell HR.out.1.hl c).trans hu
          have HRV := Hid.intro' (revI_any ou (by have := HPM.out l (List.mem_of_getElem? hl); omega))
          have HLU := Hid.intro' (And.intro hl (And.intro hl2 hu))
          have hux : ∃ a n k, u = .slice a n k := by
            obtain ⟨a, k, h⟩ := ou.slice
            exact ⟨a, _, k, h⟩
          have HOU := Hid.intro' ou
          clear hl hl2 hu ou
          obtain ⟨au, nu, ku, rfl⟩ := hux
          go_wp2_with fail
          refine HRV.out.mono ?_
          rintro r W3 ⟨⟨vr, rfl⟩, ho3, hk3⟩
          have HR3 : Hid (OW W3 (W.heap.size + 1) (W.heap.size + 1) us (rvc p (c + 1)) ∧ Below W.heap.size W W3) := by
            refine ⟨?_, hk3.below HR.out.2 HR.out.2.size (fun i hi e => by have := (HOU.out.lt i e).1; omega)⟩
            have := HR.out.1.turn HLU.out.2.2 HLU.out.2.1 hk3 ho3
            rwa [rvc_succ HLU.out.1] at this
          clear ho3 hk3 HRV HR cu HOU HLU
          go_wp2
          go_roundw
          case rel => exact ⟨c + 1, by omega, by go_num, HR3⟩
          case measure => simp [intOf]; omega
        · have hcz : ¬ (c : Int) < (s.cs.length : Int) := by omega
          have hce : c = p.length := by have := HPL.out; omega
          have hR := HR.out
          rw [hce, rvc_end, HPB.out] at hR
          have hlen := HOK.out.bl
          have HE : Hid (Below W.heap.size W wr ∧ RL (fun g => W.heap.size ≤ g) wr (.slice (some ⟨W.heap.size + 1, 0, none⟩) s.cs.length s.cs.length) e.nd.b) := by
            refine ⟨hR.2, ?_⟩
            have := hR.1.rl (D := fun g => W.heap.size ≤ g) fun q hq => by show _ ≤ q; omega
            rwa [hlen] at this
          clear hR hlen HR hce
          go_wp2
          go_ret
          exact ⟨HE.out.1, _, rfl, HE.out.2⟩
    · obtain ⟨pa, wt, nd⟩ := e'
      replace nk : NK wr ab (ncl s pa wt nd) := nk
      replace h : Pth s D W pa wt nd dd := h
      replace g : Gat s e.nd.b p nd.b := g
      replace hk : nd.k < s.cs.length := hk
      have HPT := Hid.intro' (h.below' HL.out.bel)
      have HDD : Hid (dd < 900) := by have := h.dm; show _ < _; omega
      have HCH : Hid (chl wr 1000 (.pointer (some ⟨ab, 0, none⟩)) = dd + 1) := by show _ = _; rw [chl_cell (nk.cell 0), HPT.out.chl 999 (by have := HDD.out; omega)]
      have HAB := Hid.intro' hab
      have c0 : wr.cell? ⟨ab, 0, none⟩ = some (.pointer pa) := nk.cell 0
      have c1 : wr.cell? ⟨ab, 1, none⟩ = some (.int .i64 (nd.k : Int)) := nk.cell 1
      have c2 : wr.cell? ⟨ab, 2, none⟩ = some (.int .i64 wt) := nk.cell 2
      have HNK := Hid.intro' nk
      have HG := Hid.intro' g
      rcases h.ways with ⟨rfl, rfl, rfl, rfl⟩ | ⟨pa', wt', n', d', q', w', rfl, rfl, rfl, rfl, hd, hq, h', hk', hw⟩ | ⟨pa', wt', n', d', q', rfl, rfl, rfl, rfl, hd, hq, h', hk'⟩ <;> clear h
      · skip
        have HNX : Hid (Nxt D W wr s e.nd.b p (.pointer none) 0) := .nil (Gat.done g)
        clear nk g hk hab HNK HG
        go_wp2
        go_roundw
        case rel => exact ⟨us, p, 0, HNX, HL⟩
        case measure => rw [chl_nil, HCH.out]; omega
      rotate_left 1
      · skip
        have HPT' := Hid.intro' (h'.below' HL.out.bel)
        have hq2 := hq.below' HL.out.bel
        have HNX : Hid (Nxt D W wr s e.nd.b p (.pointer (some ⟨q', 0, none⟩)) (d' + 1)) := .node (e := ⟨pa', wt', n'⟩) hq2 (by have := hq.lt; omega) h' g (by have h5 : n'.k + 1 < s.cs.length := hk; show n'.k < _; omega)
        have HCQ : Hid (chl wr 1000 (.pointer (some ⟨q', 0, none⟩)) = d' + 1) := by show _ = _; rw [chl_cell (hq2.cell 0), HPT'.out.chl 999 (by have := HDD.out; omega)]
        clear nk g hk hab HNK HG hq hq2 h' hk' hd
        go_wp2
        go_roundw
        case rel => exact ⟨us, p, _, HNX, HL⟩
        case measure => rw [HCQ.out, HCH.out]; omega
      · skip
        have HPT' := Hid.intro' (h'.below' HL.out.bel)
        have hq2 := hq.below' HL.out.bel
        have HCQ : Hid (∀ W', Below W.heap.size W W' → chl W' 1000 (.pointer (some ⟨q', 0, none⟩)) = d' + 1) := fun W' hb => by rw [chl_cell ((hq.below' hb).cell 0), (h'.below' hb).chl 999 (by have := HDD.out; omega)]
        have HNX : Hid (∀ W', Below W.heap.size W W' → Nxt D W W' s e.nd.b (PM.add p n'.k (w' : Int)) (.pointer (some ⟨q', 0, none⟩)) (d' + 1)) := fun W' hb => .node (e := ⟨pa', wt', n'⟩) (hq.below' hb) (by have := hq.lt; omega) h' (Gat.add (show Gat s e.nd.b p (PM.add n'.b n'.k (w' : Int)) from g) hk') hk
        have hkc : n'.k < s.cs.length := hk
        have hkz : (n'.k : Int) < (s.cs.length : Int) := by omega
        have c1' : wr.cell? ⟨ab, 1, none⟩ = some (.int .i64 (n'.k : Int)) := c1
        have HGM := Hid.intro' (g.max HLL.out)
        have HGL := Hid.intro' g.pl
        clear c1 nk g hk hab HG hq hq2 h' hk' hd hw
        generalize n'.k = k at *
        obtain ⟨l, hl⟩ : ∃ l, p[k]? = some l := ⟨_, List.getElem?_eq_getElem (by rw [HGL.out]; exact hkc)⟩
        obtain ⟨u, hu⟩ : ∃ u, us[k]? = some u := ⟨_, List.getElem?_eq_getElem (by rw [HL.out.ow.len, HGL.out]; exact hkc)⟩
        have hln : l.length ≤ 1000 := by have := HGM.out l (List.mem_of_getElem? hl); omega
        have ou := HL.out.ow.li k u l hu hl
        obtain ⟨au, ku, rfl⟩ := ou.slice
        have HLI := Hid.intro' hl
        have HU := Hid.intro' hu
        have hw0 : ¬ ((w' : Int) = -1) := by omega
        clear hl hu
        go_wp2_with fail
        have hbd := (Below.refl wr.heap.size wr).drew
        have hal := hbd.alloc (Nat.le_refl _) (.cells #[.int .i64 (w' : Int)] 3)
        have HOA := Hid.intro' (ou.below' hal)
        have HQA := Hid.intro' (HL.out.ow.next hal)
        have HBA := Hid.intro' (below_class HL.out.bel hal)
        have HCX : Hid ((wr.drew.alloc (.cells #[.int .i64 (w' : Int)] 3)).cell? ⟨wr.drew.heap.size, 0, none⟩ = some (.int .i64 (w' : Int))) := (OI.lit (B := 0) wr.drew [(w' : Int)] (Nat.zero_le _) (by unfold maxLen; simp)).cell (i := 0) rfl
        have ra := HNK.out.below' hbd
        have rb := HNK.out.below' hal
        have k1 : wr.drew.cell? ⟨W.heap.size + 1, k, none⟩ = some (.slice au l.length ku) := (blk_cell (HL.out.ow.next hbd).hl k).trans HU.out
        have k2 : (wr.drew.alloc (.cells #[.int .i64 (w' : Int)] 3)).cell? ⟨W.heap.size + 1, k, none⟩ = some (.slice au l.length ku) := (blk_cell HQA.out.hl k).trans HU.out
        have k4 : (wr.alloc (.cells #[.int .i64 (w' : Int)] 3)).drew.cell? ⟨W.heap.size + 1, k, none⟩ = some (.slice au l.length ku) := k2
        have k5 : (wr.alloc (.cells #[.int .i64 (w' : Int)] 3)).cell? ⟨W.heap.size + 1, k, none⟩ = some (.slice au l.length ku) := k2
        have m1 : wr.drew.cell? ⟨ab, 1, none⟩ = some (.int .i64 (k : Int)) := (ra.cell 1).trans ((HNK.out.cell 1).symm.trans c1')
        have m2 : (wr.drew.alloc (.cells #[.int .i64 (w' : Int)] 3)).cell? ⟨ab, 1, none⟩ = some (.int .i64 (k : Int)) := (rb.cell 1).trans ((HNK.out.cell 1).symm.trans c1')
        have m4 : (wr.alloc (.cells #[.int .i64 (w' : Int)] 3)).drew.cell? ⟨ab, 1, none⟩ = some (.int .i64 (k : Int)) := m2
        have m5 : (wr.alloc (.cells #[.int .i64 (w' : Int)] 3)).cell? ⟨ab, 1, none⟩ = some (.int .i64 (k : Int)) := m2
        have n1 : wr.drew.cell? ⟨ab, 2, none⟩ = some (.int .i64 (w' : Int)) := ra.cell 2
        have hsz : W.heap.size + 1 ≤ wr.heap.size := HL.out.kb
        have hne : some (W.heap.size + 1) ≠ (Value.slice au l.length ku).ownBlock := fun e => HL.out.ow.ne k _ HU.out e.symm
        have hna : some ab ≠ (Value.slice au l.length ku).ownBlock := fun e => by have := (ou.lt ab e.symm).1; have := HAB.out; omega
        have HLT := Hid.intro' HNK.out.lt
        clear hbd hal ra rb
        have HLO := Hid.intro' HL.out
        clear HL ou
        go_region_law ((refine step_appI (by rfl) (.tmp 38) (.tmp 43) (by rfl) (W.heap.size + 1) (l := l) (y := (w' : Int)) (by rfl) HOA.out hln (by rfl) HCX.out (by simp; omega) ?_; intro g' cap' W10 ho10 hg10 hat10; have p10 := (hg10.block (W.heap.size + 1) HQA.out.lt hne).trans HQA.out.hl; have q1 : W10.cell? ⟨W.heap.size + 1, k, none⟩ = some (.slice au l.length ku) := (blk_cell p10 k).trans HU.out; have q2 : W10.frozen? ⟨W.heap.size + 1, k, none⟩ = false := blk_fr p10 k; have q3 : W10.cell? ⟨ab, 1, none⟩ = some (.int .i64 (k : Int)) := hg10.cell m2 hna))
        all_goals
          have hadd := HQA.out.add HU.out HLI.out (x := (w' : Int)) hg10 (q := g') (u' := .slice (some ⟨g', 0, none⟩) (l.length + 1) cap') rfl hat10 ho10
          have hb10 : Below W.heap.size W (W10.setCell ⟨W.heap.size + 1, k, none⟩ (.slice (some ⟨g', 0, none⟩) (l.length + 1) cap')) := (HBA.out.grown hg10 (by simp; omega) (fun j hj => by have := (HOA.out.lt j hj).1; omega)).setCell (p := ⟨W.heap.size + 1, k, none⟩) (by show _ ≤ W.heap.size + 1; omega) (.slice (some ⟨g', 0, none⟩) (l.length + 1) cap')
          have hab0 : ab ≠ W.heap.size + 1 := by have := HAB.out; omega
          have z0 : (W10.setCell ⟨W.heap.size + 1, k, none⟩ (.slice (some ⟨g', 0, none⟩) (l.length + 1) cap')).cell? ⟨ab, 0, none⟩ = some (.pointer (some ⟨q', 0, none⟩)) := by
            have h1 : W10.cell? ⟨ab, 0, none⟩ = some (.pointer (some ⟨q', 0, none⟩)) := hg10.cell ((Below.cell ((Below.refl wr.heap.size wr).drew.alloc (Nat.le_refl _) (.cells #[.int .i64 (w' : Int)] 3)) (p := ⟨ab, 0, none⟩) HLT.out).trans c0) hna
            rw [← h1]
            exact World.cell?_of_block (a := ⟨ab, 0, none⟩) (Below.heap_setCell W10 ⟨W.heap.size + 1, k, none⟩ _ ab hab0)
          have HLK : Hid (Lk D W (W10.setCell ⟨W.heap.size + 1, k, none⟩ (.slice (some ⟨g', 0, none⟩) (l.length + 1) cap')) s e.nd.b (W.heap.size + 1) (us.set k (.slice (some ⟨g', 0, none⟩) (l.length + 1) cap')) (PM.add p k (w' : Int))) := ⟨hadd, hb10, Nat.le_of_lt hadd.lt⟩
          have HNX2 := Hid.intro' (HNX.out _ hb10)
          have HCQ2 := Hid.intro' (HCQ.out _ hb10)
          clear hadd hb10 hab0 ho10 hg10 hat10 p10 q1 q2 q3 k1 k2 k4 k5 m1 m2 m4 m5 n1 HOA HQA HBA HCX HLO HNX HCQ hna hne c0 c1' c2 HPT HPT'
          generalize W10.setCell ⟨W.heap.size + 1, k, none⟩ (.slice (some ⟨g', 0, none⟩) (l.length + 1) cap') = W11 at HLK HNX2 HCQ2 z0 ⊢
          go_wp2
          go_roundw
          case rel => exact ⟨_, _, _, HNX2, HLK⟩
          case measure => rw [HCQ2.out, HCH.out]; omega
end
end Go.Proofs.Ytagmidolcdefiah
