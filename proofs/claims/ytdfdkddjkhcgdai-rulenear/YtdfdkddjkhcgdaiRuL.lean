/- The rule's plan, as the program makes it. -/
import Derived.Test.YtdfdkddjkhcgdaiRuP
import Derived.Test.YtdfdkddjkhcgdaiPk7
import Derived.Test.YtdfdkddjkhcgdaiRvA
import Derived.Test.YtdfdkddjkhcgdaiRvC
import Derived.Test.YtdfdkddjkhcgdaiStV
import Derived.Test.YtdfdkddjkhcgdaiPlT
namespace Go.Proofs.Ytdfdkddjkhcgdai
open Go.RowKit Go.Shelf

section
variable {W W' : World} {B g : Nat} {us : List Value} {p : List (List Int)}
/-- one list is written in its place -/
theorem OW.row (h : OW W B g us p) {c q n cap : Nat} {M : List Int} (hu : us[c]? = some (.slice (some ⟨q, 0, none⟩) n cap)) (hk : Kp (fun k => k = q) W W') (ho : OI W' B (.slice (some ⟨q, 0, none⟩) n cap) M) : OW W' B g us (p.set c M) := by
  have hqg : q ≠ g := fun e => h.ne c _ hu (by rw [e]; rfl)
  have hcp : c < p.length := by rw [← h.len]; exact (List.getElem?_eq_some_iff.1 hu).1
  refine ⟨(hk.block g h.lt (fun e => hqg e.symm)).trans h.hl, by rw [List.length_set]; exact h.len, fun d u l hu' hl => ?_, h.bg, h.ne, h.dj⟩
  by_cases e : c = d
  · subst e
    rw [List.getElem?_set_self hcp] at hl
    rw [hu] at hu'
    cases hu'
    cases hl
    exact ho
  · rw [List.getElem?_set_ne e] at hl
    have ho' := h.li d u l hu' hl
    exact ho'.keep fun k hk' => hk.block k (ho'.lt k hk').2 (fun e' => e (h.dj c d _ u q hu hu' rfl (by rw [hk', e'])))
theorem Rpq.row {w : World} {s : Sn} {vc vw : Value} (h : Rpq w W s vc vw g us p) {c q n cap : Nat} {M : List Int} (hu : us[c]? = some (.slice (some ⟨q, 0, none⟩) n cap)) (hk : Kp (fun k => k = q) W W') (ho : OI W' (w.heap.size + 1) (.slice (some ⟨q, 0, none⟩) n cap) M) : Rpq w W' s vc vw g us (p.set c M) := by
  have hq := (OI.lt ho q rfl).1
  exact ⟨h.nb.kp hk (by show w.heap.size ≠ q; omega), h.ow.row hu hk ho, hk.below h.bel h.bel.size (fun i hi e => by omega)⟩
end

set_option maxHeartbeats 2000000 in
theorem isort_nil (f : Value) (w : World) : Calls Try.prog 35 #[.slice none 0 0, .int .i64 0, .int .i64 0, f] w fun e w' => e = .returned (.tuple #[]) ∧ w' = w := by
  go_enter Try.func35, Try.ntmps35
  go_wp2_with fail
  refine wp_loop_rounds 1 ?_
  rw [rounds_succ]
  go_wp2
  go_end0
  exact ⟨rfl, rfl⟩
set_option maxHeartbeats 2000000 in
theorem stable_nil (f : Value) (w : World) : Calls Try.prog 29 #[.slice none 0 0, .int .i64 0, f] w fun e w' => e = .returned (.tuple #[]) ∧ w' = w := by
  go_enter Try.func29, Try.ntmps29
  go_wp2_with fail
  refine wp_loop_rounds 1 ?_
  rw [rounds_succ]
  go_wp2_with fail
  refine (isort_nil _ _).mono ?_
  rintro e W2 ⟨rfl, rfl⟩
  go_wp2_with fail
  refine wp_loop_rounds 1 ?_
  rw [rounds_succ]
  go_wp2
  go_end0
  exact ⟨rfl, rfl⟩
set_option maxHeartbeats 2000000 in
theorem sort_nil (f : Value) (w : World) : Calls Try.prog 17 #[.slice none 0 0, f] w fun e w' => e = .returned (.tuple #[]) ∧ w' = w := by
  go_enter Try.func17, Try.ntmps17
  go_wp2_with fail
  refine (stable_nil _ _).mono ?_
  rintro e W2 ⟨rfl, rfl⟩
  go_wp2
  go_end0
  exact ⟨rfl, rfl⟩

theorem set_same {α : Type} {p : List α} {c : Nat} {l : α} (h : p[c]? = some l) : p.set c l = p := by
  apply List.ext_getElem?
  intro i
  by_cases e : c = i
  · subst e; rw [List.getElem?_set_self (List.getElem?_eq_some_iff.1 h).1, h]
  · rw [List.getElem?_set_ne e]
section
variable {D : Nat → Prop} {w : World} {s : Sn} {vc vw : Value}
set_option maxRecDepth 100000 in
set_option maxHeartbeats 2000000 in
theorem ruleplan_no (hc : R2 D w vc s.cs) (hw : R2 D w vw s.ws) (hr : rgt s = false) :
    Calls Try.prog 11 #[.agg (nv s.st vc vw).toArray] w fun e w' => e = .returned (.tuple #[.slice none 0 0, .int .i64 1]) ∧ Below w.heap.size w w' := by
  have hbx := (Below.refl w.heap.size w).alloc (Nat.le_refl _) (.cells (nv s.st vc vw).toArray 36)
  have HN := Hid.intro' (NB.new w s.st vc vw)
  have HB := Hid.intro' hbx
  have hrr := snapRight_any s D vc vw _ (hc.below' hbx) (hw.below' hbx)
  rw [hr] at hrr
  have HR := Hid.intro' hrr
  clear hbx hc hw hrr hr
  go_enter Try.func11, Try.ntmps11
  go_wp2_with (refine wpList_load27g rfl _ rfl w.heap.size s.st _ _ rfl HN.out ?_)
  refine HR.out.mono ?_
  rintro e W2 ⟨rfl, hb2⟩
  have HB2 := Hid.intro' (below_class HB.out hb2)
  clear hb2 HN HB HR
  go_wp2
  go_ret2
  exact ⟨rfl, HB2.out⟩
set_option maxRecDepth 100000 in
set_option maxHeartbeats 8000000 in
theorem ruleplan_yes (hc : R2 D w vc s.cs) (hw : R2 D w vw s.ws) (hr : rgt s = true) :
    Calls Try.prog 11 #[.agg (nv s.st vc vw).toArray] w fun e w' => ∃ v, e = .returned (.tuple #[v, .int .i64 0]) ∧ RL (fun _ => True) w' v (rpl s s.cs.length) ∧ Below w.heap.size w w' := by
  have hbx := (Below.refl w.heap.size w).alloc (Nat.le_refl _) (.cells (nv s.st vc vw).toArray 36)
  have HN := Hid.intro' (NB.new w s.st vc vw)
  have HB := Hid.intro' hbx
  have hrr := snapRight_any s D vc vw _ (hc.below' hbx) (hw.below' hbx)
  rw [hr] at hrr
  have HRT := Hid.intro' hrr
  have HC : Hid (R2 (fun g => g < w.heap.size) w vc s.cs) := hc.mono fun g _ h _ => h
  have HW : Hid (R2 (fun g => g < w.heap.size) w vw s.ws) := hw.mono fun g _ h _ => h
  obtain ⟨ac, kc, rfl, _, _⟩ := hc.form
  obtain ⟨aw, kw, rfl, _, _⟩ := hw.form
  have HR := Hid.intro' hr
  have HZ := Hid.intro' (rgt_rz hr)
  obtain ⟨n8, hrs⟩ := rgt_rs hr
  have hwl : s.ws.length ≤ 128 := hrs.wl
  have hcl : s.cs.length ≤ 8 := by have := hrs.cl; have := hrs.n8; omega
  have hmk := mkL s.cs.length (by omega)
  clear hc hw hbx hr hrs hrr
  go_enter Try.func11, Try.ntmps11
  go_wp2_with (refine wpList_load27g rfl _ rfl w.heap.size s.st _ _ rfl HN.out ?_)
  refine HRT.out.mono ?_
  rintro e W2 ⟨rfl, hb2⟩
  have HB2 := Hid.intro' (below_class HB.out hb2)
  have HN2 := Hid.intro' (HN.out.below' hb2)
  have c13 : W2.cell? ⟨w.heap.size, 13, none⟩ = some (.slice ac s.cs.length kc) := HN2.out.cell 13
  have c14 : (W2.alloc (.cells (Array.replicate s.cs.length (Value.slice none 0 0)) 44)).cell? ⟨w.heap.size, 14, none⟩ = some (.slice aw s.ws.length kw) := (HN2.out.alloc _).cell 14
  clear hb2 HN HB HRT
  go_wp2_with fail
  clear hmk c13 c14
  have hbY := (Below.refl W2.heap.size W2).alloc (Nat.le_refl _) (.cells (Array.replicate s.cs.length (Value.slice none 0 0)) 44)
  obtain ⟨gp, HGP⟩ : ∃ gp, Hid (W2.heap.size = gp) := ⟨_, Hid.intro' rfl⟩
  have hz2 : w.heap.size + 1 ≤ W2.heap.size := HN2.out.lt
  have HQ0 : Hid (Rpq w (W2.alloc (.cells (Array.replicate s.cs.length (Value.slice none 0 0)) 44)) s (.slice ac s.cs.length kc) (.slice aw s.ws.length kw) gp (List.replicate s.cs.length (Value.slice none 0 0)) (pfl s 0)) := by
    have := OW.make (B := w.heap.size + 1) W2 s.cs.length hz2
    rw [List.toArray_replicate, HGP.out] at this
    rw [pfl_zero]
    exact ⟨HN2.out.below' hbY, this, below_class HB2.out hbY⟩
  have HGW : Hid (w.heap.size + 1 ≤ gp) := by show _ ≤ _; rw [← HGP.out]; exact hz2
  rw [HGP.out]
  generalize W2.alloc (.cells (Array.replicate s.cs.length (Value.slice none 0 0)) 44) = Y at HQ0 ⊢
  clear hbY hz2 HB2 HN2 HGP
  go_loopw [21] (fun kv wr => ∃ (k : Nat) (us : List Value), k ≤ s.ws.length ∧ kv = .int .i64 (k : Int) ∧ Hid (Rpq w wr s (.slice ac s.cs.length kc) (.slice aw s.ws.length kw) gp us (pfl s k))) (fun kv _ => s.ws.length - (intOf kv).toNat)
  case atStart => exact ⟨0, _, Nat.zero_le _, rfl, HQ0⟩
  case round =>
    clear HQ0
    obtain ⟨k, us, hkn, rfl, HQ⟩ := hrel
    by_cases hk : k < s.ws.length
    · have hkz : (k : Int) < (s.ws.length : Int) := by omega
      obtain ⟨y, hy⟩ : ∃ y, s.ws[k]? = some y := ⟨_, List.getElem?_eq_getElem hk⟩
      obtain ⟨gw, ow, rfl, f0, f1⟩ := (HW.out.below' HQ.out.bel).at hy
      obtain ⟨c, hc1, hc2, _, _⟩ := rfc_car HR.out hk
      have hbv := (Below.refl wr.heap.size wr).alloc (Nat.le_refl _) (.cells #[.int .i64 y.1, .int .i64 y.2] 46)
      have HQ1 := Hid.intro' (HQ.out.next hbv)
      have HN1 := Hid.intro' HQ1.out.nb
      have HWB : Hid ((wr.alloc (.cells #[.int .i64 y.1, .int .i64 y.2] 46)).heap[wr.heap.size]? = some (.cells #[.int .i64 y.1, .int .i64 y.2] 46 (0, 0))) := World.alloc_heap_new wr _
      have d0 : (wr.alloc (.cells #[.int .i64 y.1, .int .i64 y.2] 46)).cell? ⟨wr.heap.size, 0, none⟩ = some (.int .i64 y.1) := by rw [cell_of_row _ _ 0 _ _ _ HWB.out]; rfl
      have d1 : (wr.alloc (.cells #[.int .i64 y.1, .int .i64 y.2] 46)).cell? ⟨wr.heap.size, 1, none⟩ = some (.int .i64 y.2) := by rw [cell_of_row _ _ 1 _ _ _ HWB.out]; rfl
      have hft := firstThere_any s (fun g => g < w.heap.size) (.slice ac s.cs.length kc) (.slice (some ⟨gw, ow, none⟩) s.ws.length kw) _ (HC.out.below' HQ1.out.bel) HR.out k y hy
      rw [hc1] at hft
      have HFT := Hid.intro' hft
      have HCC := Hid.intro' hc1
      clear hft hc1 hbv hy HQ
      go_wp2_with (refine wpList_load27g rfl _ rfl w.heap.size s.st _ _ rfl HN1.out ?_)
      refine HFT.out.mono ?_
      rintro e W3 ⟨rfl, hb3⟩
      have HQ3 := Hid.intro' (HQ1.out.next hb3)
      clear hb3 HFT HQ1 HN1 HWB d0 d1 f0 f1
      obtain ⟨l, HL⟩ : ∃ l, Hid (fil s c k = l) := ⟨_, Hid.intro' rfl⟩
      have HPG : Hid ((pfl s k)[c]? = some l) := by show _ = _; rw [pfl_get hc2, HL.out]
      have hll : l.length ≤ 1000000 := by have := fil_len (s := s) c k; rw [HL.out] at this; omega
      have HLL := Hid.intro' hll
      have HPS := Hid.intro' (pfl_succ HCC.out hc2)
      obtain ⟨u, hu⟩ : ∃ u, us[c]? = some u := ⟨_, List.getElem?_eq_getElem (by rw [HQ3.out.ow.len, pfl_length]; exact hc2)⟩
      have ou := HQ3.out.ow.li c u l hu HPG.out
      obtain ⟨au, ku, rfl⟩ := ou.slice
      have HU := Hid.intro' hu
      have hal := (Below.refl W3.heap.size W3).alloc (Nat.le_refl _) (.cells #[.int .i64 (k : Int)] 3)
      have HQA := Hid.intro' (HQ3.out.next hal)
      have HOA := Hid.intro' (ou.below' hal)
      have HCX : Hid ((W3.alloc (.cells #[.int .i64 (k : Int)] 3)).cell? ⟨W3.heap.size, 0, none⟩ = some (.int .i64 (k : Int))) := (OI.lit (B := 0) W3 [(k : Int)] (Nat.zero_le _) (by unfold maxLen; simp)).cell (i := 0) rfl
      have k1 : W3.cell? ⟨gp, c, none⟩ = some (.slice au l.length ku) := (blk_cell HQ3.out.ow.hl c).trans hu
      have hcz : (c : Int) < (s.cs.length : Int) := by omega
      have HSZ : Hid (w.heap.size + 1 ≤ (W3.alloc (.cells #[.int .i64 (k : Int)] 3)).heap.size) := by
        show _ ≤ _
        have := HQ3.out.nb.lt
        simp; omega
      clear ou hu hal HL HCC
      go_wp2_with (at_builtin; refine wpList_appI rfl _ _ rfl (w.heap.size + 1) _ l rfl HOA.out W3.heap.size 1 (k : Int) rfl HCX.out HLL.out HSZ.out ?_)
      intro g' cap' W7 ho7 hg7 hat7 hlt7
      have hne : some gp ≠ (Value.slice au l.length ku).ownBlock := fun e => HQA.out.ow.ne c _ HU.out e.symm
      have p7 := (hg7.block gp HQA.out.ow.lt hne).trans HQA.out.ow.hl
      have q1 : W7.cell? ⟨gp, c, none⟩ = some (.slice au l.length ku) := (blk_cell p7 c).trans HU.out
      have q2 : W7.frozen? ⟨gp, c, none⟩ = false := blk_fr p7 c
      have hadd := HQA.out.add HU.out HPG.out (x := (k : Int)) hg7 (q := g') (u' := .slice (some ⟨g', 0, none⟩) (l.length + 1) cap') rfl (hat7.imp id fun e => by rw [e]; simp) ho7
      rw [HPS.out] at hadd
      have HAD := Hid.intro' hadd
      clear hadd ho7 hg7 hat7 hlt7 p7 hne HQA HOA HCX HSZ HLL HPS k1 HQ3 HU HPG
      go_wp2
      go_roundw
      case rel => exact ⟨k + 1, _, by omega, by go_num, HAD⟩
      case measure => simp [intOf]; omega
    · have hkz : ¬ (k : Int) < (s.ws.length : Int) := by omega
      rw [show k = s.ws.length by omega, ← pso_zero] at HQ
      have HQ1 := HQ
      clear HQ
      go_wp2_with fail
      rename World => Wr
      go_loopw [42] (fun cv wr => ∃ (c : Nat), c ≤ s.cs.length ∧ cv = .int .i64 (c : Int) ∧ Hid (Rpq w wr s (.slice ac s.cs.length kc) (.slice aw s.ws.length kw) gp us (pso s c))) (fun cv _ => s.cs.length - (intOf cv).toNat)
      case atStart => exact ⟨0, Nat.zero_le _, rfl, HQ1⟩
      case round =>
        clear HQ1
        obtain ⟨c, hcn, rfl, HQ⟩ := hrel
        by_cases hc : c < s.cs.length
        · have hcz : (c : Int) < (s.cs.length : Int) := by omega
          obtain ⟨r, hr⟩ : ∃ r, s.cs[c]? = some r := ⟨_, List.getElem?_eq_getElem hc⟩
          obtain ⟨gc, oc, rfl, e0, _⟩ := (HC.out.below' HQ.out.bel).at hr
          obtain ⟨r1, r2⟩ := r
          have HKF : Hid (ky s.ws r1 = rfa s c) := by
            show _ = _
            funext x
            unfold ky rfa
            rw [hr]
            rfl
          have HR1 : Hid (0 ≤ r1 ∧ r1 ≤ 1000) := by
            have h1 : 0 ≤ r1 := (HZ.out.cr (r1, r2) (List.mem_of_getElem? hr)).f0
            have h2 : r1 < s.st.fl := (HZ.out.cr (r1, r2) (List.mem_of_getElem? hr)).f1
            have h3 := HZ.out.rt.fl2
            exact ⟨h1, by omega⟩
          have HWB : Hid (∀ y ∈ s.ws, 0 ≤ y.1 ∧ y.1 ≤ 1000) := fun y hy => by
            have h1 := HZ.out.wr y hy
            have h3 := HZ.out.rt.fl2
            exact ⟨h1.1, by omega⟩
          obtain ⟨u, hu⟩ : ∃ u, us[c]? = some u := ⟨_, List.getElem?_eq_getElem (by rw [HQ.out.ow.len, pso_length]; exact hc)⟩
          have hpg : (pso s c)[c]? = some (fil s c s.ws.length) := by rw [pso_get hc, if_neg (by omega)]
          have HPG := Hid.intro' hpg
          have ou := HQ.out.ow.li c u _ hu hpg
          have k1 : wr.cell? ⟨gp, c, none⟩ = some u := (blk_cell HQ.out.ow.hl c).trans hu
          have c13 : wr.cell? ⟨w.heap.size, 13, none⟩ = some (.slice (some ⟨gc, oc, none⟩) s.cs.length kc) := HQ.out.nb.cell 13
          have hbx := (Below.refl wr.heap.size wr).alloc (Nat.le_refl _) (.cells #[.int .i64 r1] 3)
          have HQX := Hid.intro' (HQ.out.next hbx)
          have HU := Hid.intro' hu
          have HFB : Hid ((wr.alloc (.cells #[.int .i64 r1] 3)).cell? ⟨wr.heap.size, 0, none⟩ = some (.int .i64 r1)) := by
            show _ = _
            rw [cell_of_row _ _ 0 _ _ _ (World.alloc_heap_new wr (.cells #[.int .i64 r1] 3))]; rfl
          have HOX := Hid.intro' (ou.below' hbx)
          have HLT : Hid (∀ q, u.ownBlock = some q → w.heap.size + 1 ≤ q ∧ q < wr.heap.size) := fun q hq => ou.lt q hq
          have hfl : (fil s c s.ws.length).length ≤ 1000 := by have := fil_len (s := s) c s.ws.length; omega
          have HFL := Hid.intro' hfl
          clear hr hu hpg ou hbx hfl
          rcases HOX.out.form with ⟨hun, hfn⟩ | ⟨q, cap, hus, hq1, hq2, hq3, hq4⟩
          · subst hun
            have HQ4 : Hid (Rpq w (wr.alloc (.cells #[.int .i64 r1] 3)) s (.slice (some ⟨gc, oc, none⟩) s.cs.length kc) (.slice aw s.ws.length kw) gp us (pso s (c + 1))) := by
              have h1 := rls_eq HR.out hc (M := []) (by rw [hfn]) List.Pairwise.nil
              rw [← pso_succ hc, ← h1, ← hfn, set_same HPG.out]
              exact HQX.out
            clear hfn HQ HQX HOX HU HLT HFB HPG HKF HR1 HWB
            go_wp2_with fail
            refine (sort_nil _ _).mono ?_
            rintro e W5 ⟨rfl, rfl⟩
            go_wp2
            go_roundw
            case rel => exact ⟨c + 1, by omega, by go_num, HQ4⟩
            case measure => simp [intOf]; omega
          · subst hus
            have hqw := HLT.out q rfl
            obtain ⟨n, hn⟩ : ∃ n, n = (fil s c s.ws.length).length := ⟨_, rfl⟩
            rw [← hn] at HOX HU k1 HFL
            have hck : Ck (.pointer (some ⟨wr.heap.size, 0, none⟩)) (.pointer (some ⟨w.heap.size, 0, none⟩)) (rfa s c) (fun x => 0 ≤ x ∧ x < s.ws.length) (wr.alloc (.cells #[.int .i64 r1] 3)) q := fun W x y hk hx hy => by
              have h := plancmp_any s (fun g => g < w.heap.size) (.slice (some ⟨gc, oc, none⟩) s.cs.length kc) (.slice aw s.ws.length kw) r1 x y wr.heap.size w.heap.size W
                ((World.cell?_of_block (a := ⟨wr.heap.size, 0, none⟩) (hk.block wr.heap.size (by simp) (by omega))).trans HFB.out)
                (HQX.out.nb.kp hk (by omega)) (((HW.out.below' HQX.out.bel)).keep hk.size (fun g hg hlt => hk.block g hlt (by omega))) HR1.out HWB.out hx hy
              rw [HKF.out] at h
              exact h
            have hso := sortS_any _ (w.heap.size + 1) q cap n (fil s c s.ws.length) (.pointer (some ⟨wr.heap.size, 0, none⟩)) (.pointer (some ⟨w.heap.size, 0, none⟩)) (rfa s c) (fun x => 0 ≤ x ∧ x < s.ws.length) HFL.out (fil_td c _ _) (fun x hx => by
              obtain ⟨v, rfl, h1, _⟩ := fil_mem.1 hx
              exact ⟨by omega, by omega⟩) hck (wr.alloc (.cells #[.int .i64 r1] 3)) ⟨HOX.out, Kp.refl _ _⟩
            have HSO := Hid.intro' hso
            have HQQ : Hid (∀ W', Q1 (wr.alloc (.cells #[.int .i64 r1] 3)) W' (w.heap.size + 1) q cap n (rfa s c) [] (fil s c s.ws.length) [] → Rpq w W' s (.slice (some ⟨gc, oc, none⟩) s.cs.length kc) (.slice aw s.ws.length kw) gp us (pso s (c + 1))) := fun W' h => by
              obtain ⟨M, h1, h2, h3⟩ := h
              rw [List.nil_append, List.append_nil] at h3
              have h4 := rls_eq HR.out hc h1 h2
              subst h4
              rw [← pso_succ hc]
              exact HQX.out.row HU.out h3.kp h3.oi
            clear hso hck hq1 hq2 hq3 hq4 hqw hn HQ HQX HOX HU HLT HFB HPG HKF HR1 HWB HFL
            go_wp2_with fail
            refine HSO.out.mono ?_
            rintro e W5 ⟨rfl, h5⟩
            have HQ4 := Hid.intro' (HQQ.out W5 h5)
            clear h5 HSO HQQ k1 e0 c13
            go_wp2
            go_roundw
            case rel => exact ⟨c + 1, by omega, by go_num, HQ4⟩
            case measure => simp [intOf]; omega
        · have hcz : ¬ (c : Int) < (s.cs.length : Int) := by omega
          rw [show c = s.cs.length by omega, pso_end] at HQ
          have hrl := HQ.out.ow.rl (D := fun _ => True) fun _ _ => trivial
          rw [rpl_length] at hrl
          have HRL := Hid.intro' hrl
          have HBE := Hid.intro' HQ.out.bel
          clear hrl HQ
          go_wp2
          go_ret2
          exact ⟨_, rfl, HRL.out, HBE.out⟩
end

end Go.Proofs.Ytdfdkddjkhcgdai
