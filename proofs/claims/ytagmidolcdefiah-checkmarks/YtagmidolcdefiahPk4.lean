/- Several texts in one, each with its own head. -/
import Derived.Test.YtagmidolcdefiahPk3
/- Each want's time, and the cost, as the document tells them. -/
namespace Go.Proofs.Ytagmidolcdefiah
open Go.RowKit
namespace RM
variable {s : St} {ws : List (Int × Int)}
theorem pr1_get {r : Int × Int} {l : List Int} {j : Nat} {x : Int} (h : l[j]? = some x) : (pr1 s ws r l)[j]? = some (x, ar s (go s (bg r) ((l.take j).map (wf ws))) (wf ws x)) := by
  have h4 : (l.map (wf ws))[j]? = some (wf ws x) := by rw [List.getElem?_map, h]; rfl
  have h5 := tm_get (s := s) (a := bg r) h4
  rw [← List.map_take] at h5
  unfold pr1
  rw [List.getElem?_zip_eq_some]
  exact ⟨h, h5⟩
theorem pr1_length (r : Int × Int) (l : List Int) : (pr1 s ws r l).length = l.length := by
  unfold pr1
  rw [List.length_zip, tm_length, List.length_map, Nat.min_self]
theorem prs_snoc : ∀ {k : Nat} {cs : List (Int × Int)} {p : List (List Int)} {r : Int × Int} {l : List Int}, cs[k]? = some r → p[k]? = some l → prs s ws (cs.take (k + 1)) (p.take (k + 1)) = prs s ws (cs.take k) (p.take k) ++ pr1 s ws r l
  | _, [], _, _, _, h, _ => by simp at h
  | _, _ :: _, [], _, _, _, h => by simp at h
  | 0, r0 :: cs, l0 :: p, r, l, h1, h2 => by
    simp at h1 h2
    subst h1 h2
    simp [prs]
  | k + 1, r0 :: cs, l0 :: p, r, l, h1, h2 => by
    have := prs_snoc (k := k) (cs := cs) (p := p) (r := r) (l := l) (by simpa using h1) (by simpa using h2)
    rw [List.take_succ_cons, List.take_succ_cons, List.take_succ_cons, List.take_succ_cons]
    show pr1 s ws r0 l0 ++ prs s ws (cs.take (k + 1)) (p.take (k + 1)) = (pr1 s ws r0 l0 ++ prs s ws (cs.take k) (p.take k)) ++ pr1 s ws r l
    rw [this, List.append_assoc]
/-- what is written behind k lists, and j wants of the next one -/
def wto (s : St) (ws cs : List (Int × Int)) (p : List (List Int)) (r : Int × Int) (l : List Int) (k j : Nat) : List Int := put (List.replicate ws.length 0) (prs s ws (cs.take k) (p.take k) ++ (pr1 s ws r l).take j)
def wtk (s : St) (ws cs : List (Int × Int)) (p : List (List Int)) (k : Nat) : List Int := put (List.replicate ws.length 0) (prs s ws (cs.take k) (p.take k))
variable {cs : List (Int × Int)} {p : List (List Int)}
theorem wto_zero (r : Int × Int) (l : List Int) (k : Nat) : wto s ws cs p r l k 0 = wtk s ws cs p k := by unfold wto wtk; rw [List.take_zero, List.append_nil]
theorem wto_succ {r : Int × Int} {l : List Int} {k j : Nat} {x : Int} (h : l[j]? = some x) : wto s ws cs p r l k (j + 1) = (wto s ws cs p r l k j).set x.toNat (ar s (go s (bg r) ((l.take j).map (wf ws))) (wf ws x)) := by
  unfold wto
  rw [take_snoc (pr1_get h), ← List.append_assoc, put_append _ [_]]
  rfl
theorem wto_end {r : Int × Int} {l : List Int} {k : Nat} (h1 : cs[k]? = some r) (h2 : p[k]? = some l) : wto s ws cs p r l k l.length = wtk s ws cs p (k + 1) := by
  unfold wto wtk
  rw [prs_snoc h1 h2, List.take_of_length_le (l := pr1 s ws r l) (by rw [pr1_length]; exact Nat.le_refl _)]
theorem wtk_zero : wtk s ws cs p 0 = List.replicate ws.length 0 := by unfold wtk; simp [prs, put]
theorem wtk_end {k : Nat} (h1 : cs.length ≤ k) (h2 : p.length ≤ k) : wtk s ws cs p k = wts s ws cs p := by
  unfold wtk wts
  rw [List.take_of_length_le h1, List.take_of_length_le h2]
theorem wto_length (r : Int × Int) (l : List Int) (k j : Nat) : (wto s ws cs p r l k j).length = ws.length := by unfold wto; rw [put_length, List.length_replicate]
end RM
/-- what holds while times are written -/
structure Wq (w W : World) (cb : Nat) (s : Sn) (D : Nat → Prop) (vc vw vp : Value) (p : List (List Int)) (o : List Int) : Prop where
  nb : NB W w.heap.size s.st vc vw
  ow : OI W (w.heap.size + 1) (.slice (some ⟨cb, 0, none⟩) s.ws.length s.ws.length) o
  rp : RL D W vp p
  rc : R2 D W vc s.cs
  rw : R2 D W vw s.ws
  dl : ∀ g, D g → g < w.heap.size
  bel : Below w.heap.size w W
section
variable {w W W' : World} {cb : Nat} {s : Sn} {D : Nat → Prop} {vc vw vp : Value} {p : List (List Int)} {o : List Int}
theorem Wq.next (h : Wq w W cb s D vc vw vp p o) (hb : Below W.heap.size W W') : Wq w W' cb s D vc vw vp p o :=
  ⟨h.nb.below' hb, h.ow.keep fun g hg => hb.block g (h.ow.lt g hg).2, h.rp.below' hb, h.rc.below' hb, h.rw.below' hb, h.dl, below_class h.bel hb⟩
theorem Wq.put (h : Wq w W cb s D vc vw vp p o) (i : Nat) (x : Int) : Wq w (W.setCell ⟨cb, i, none⟩ (.int .i64 x)) cb s D vc vw vp p (o.set i x) := by
  have hl := (h.ow.lt cb rfl).1
  have keep : ∀ k, k ≠ cb → (W.setCell ⟨cb, i, none⟩ (.int .i64 x)).heap[k]? = W.heap[k]? := fun k hk => Below.heap_setCell W ⟨cb, i, none⟩ _ k hk
  have kd : ∀ g, D g → g < W.heap.size → (W.setCell ⟨cb, i, none⟩ (.int .i64 x)).heap[g]? = W.heap[g]? := fun g hg _ => keep g (by have := h.dl g hg; omega)
  have hs : W.heap.size ≤ (W.setCell ⟨cb, i, none⟩ (.int .i64 x)).heap.size := by simp [World.setCell]
  exact ⟨(keep _ (by omega)).trans h.nb, h.ow.put i x, h.rp.keep hs kd, h.rc.keep hs kd, h.rw.keep hs kd, h.dl, h.bel.setCell (p := ⟨cb, i, none⟩) (by show _ ≤ cb; omega) _⟩
end
theorem ic_rep (n : Nat) : ic (List.replicate n 0) = List.replicate n (Value.int .i64 0) := by unfold ic; rw [List.map_replicate]
theorem cell_lt {W : World} {g o : Nat} {v : Value} (h : W.cell? ⟨g, o, none⟩ = some v) : g < W.heap.size := by
  obtain ⟨ob, ho, _⟩ := cells_of_cell h
  exact (Array.getElem?_eq_some_iff.1 ho).1
set_option maxHeartbeats 8000000 in
theorem rwaits_any (s : Sn) (D : Nat → Prop) (vc vw vp : Value) (p : List (List Int)) (w : World) (hc : R2 D w vc s.cs) (hw : R2 D w vw s.ws) (hp : RL D w vp p) (hf : fsb s p = true) (hll : ∀ l ∈ p, l.length ≤ 1000) :
    Calls Try.prog 34 #[.agg (nv s.st vc vw).toArray, vp] w fun e w' => ∃ v, e = .returned v ∧ OI w' w.heap.size v (RM.wts s.st s.ws s.cs p) ∧ Below w.heap.size w w' := by
  have hf3 : rgt s = true ∧ p.length = s.cs.length ∧ PM.feas (msk s) p = true := by unfold fsb at hf; simp [Bool.and_eq_true] at hf; exact ⟨hf.1.1, hf.1.2, hf.2⟩
  obtain ⟨n, hrs⟩ := rgt_rs hf3.1
  have HZ := Hid.intro' (rgt_rz hf3.1)
  have HAF := Hid.intro' (rgt_after hf3.1)
  have HPC := Hid.intro' hf3.2.1
  have HRG : Hid (∀ x ∈ p.flatten, 0 ≤ x ∧ x < s.ws.length) := fun x hx => by
    have := RM.fz_range (PM.feas_iff.1 hf3.2.2) x hx
    rw [show (msk s).length = s.ws.length from hrs.mm.len] at this
    exact this
  have hwl : s.ws.length ≤ 128 := hrs.wl
  have hpl : p.length ≤ 8 := by have := hrs.cl; have := hrs.n8; have := hf3.2.1; omega
  have HP : Hid (RL (fun g => g < w.heap.size) w vp p) := hp.mono fun g _ h _ => h
  have HW : Hid (R2 (fun g => g < w.heap.size) w vw s.ws) := hw.mono fun g _ h _ => h
  have HC : Hid (R2 (fun g => g < w.heap.size) w vc s.cs) := hc.mono fun g _ h _ => h
  have hbx := (Below.refl w.heap.size w).alloc (Nat.le_refl _) (.cells (nv s.st vc vw).toArray 27)
  have HN := Hid.intro' (NB.new w s.st vc vw)
  have HB := Hid.intro' hbx
  obtain ⟨ac, kc, rfl, _, _⟩ := hc.form
  obtain ⟨aw, kw, rfl, _, _⟩ := hw.form
  obtain ⟨ap, kp, rfl, _, _⟩ := hp.form
  have HLL := Hid.intro' hll
  have hmk := mkI s.ws.length (by omega)
  have c14 : (w.alloc (.cells (nv s.st (.slice ac s.cs.length kc) (.slice aw s.ws.length kw)).toArray 27)).cell? ⟨w.heap.size, 14, none⟩ = some (.slice aw s.ws.length kw) := HN.out.cell 14
  clear hc hw hp hbx hll hf hf3 hrs
  go_enter Try.func34, Try.ntmps34
  go_wp2_with fail
  have HS1 : Hid ((w.alloc (.cells (nv s.st (.slice ac s.cs.length kc) (.slice aw s.ws.length kw)).toArray 27)).heap.size = w.heap.size + 1) := by show _ = _; simp
  clear c14 hmk
  generalize w.alloc (.cells (nv s.st (.slice ac s.cs.length kc) (.slice aw s.ws.length kw)).toArray 27) = X at HN HB HS1 ⊢
  have hbY := (Below.refl X.heap.size X).alloc (Nat.le_refl _) (.cells (Array.replicate s.ws.length (Value.int .i64 0)) 3)
  have HQ0 : Hid (Wq w (X.alloc (.cells (Array.replicate s.ws.length (Value.int .i64 0)) 3)) (w.heap.size + 1) s (fun g => g < w.heap.size) (.slice ac s.cs.length kc) (.slice aw s.ws.length kw) (.slice ap p.length kp) p (RM.wtk s.st s.ws s.cs p 0)) := by
    have hb2 := below_class HB.out hbY
    refine ⟨HN.out.below' hbY, ?_, HP.out.below' hb2, HC.out.below' hb2, HW.out.below' hb2, fun _ h => h, hb2⟩
    have := OI.lit (B := w.heap.size + 1) X (List.replicate s.ws.length 0) (by rw [HS1.out]; exact Nat.le_refl _) (by rw [List.length_replicate]; unfold maxLen; omega)
    rw [ic_rep, List.length_replicate, List.toArray_replicate, HS1.out] at this
    rw [RM.wtk_zero]
    exact this
  clear hbY HN HB HS1 HP HC HW
  generalize X.alloc (.cells (Array.replicate s.ws.length (Value.int .i64 0)) 3) = Y at HQ0 ⊢
  generalize w.heap.size + 1 = cb at HQ0 ⊢
  go_loopw [6] (fun i wr => ∃ k : Nat, k ≤ p.length ∧ i = .int .i64 (k : Int) ∧ Hid (Wq w wr cb s (fun g => g < w.heap.size) (.slice ac s.cs.length kc) (.slice aw s.ws.length kw) (.slice ap p.length kp) p (RM.wtk s.st s.ws s.cs p k))) (fun i _ => p.length - (intOf i).toNat)
  case atStart => exact ⟨0, Nat.zero_le _, rfl, HQ0⟩
  case round =>
    obtain ⟨k, hk, rfl, HQ⟩ := hrel
    clear HQ0
    by_cases hlt : k < p.length
    · have hkz : (k : Int) < (p.length : Int) := by omega
      obtain ⟨l, hl⟩ : ∃ l, p[k]? = some l := ⟨_, List.getElem?_eq_getElem hlt⟩
      obtain ⟨r, hr⟩ : ∃ r, s.cs[k]? = some r := ⟨_, List.getElem?_eq_getElem (by have := HPC.out; omega)⟩
      have HL := Hid.intro' hl
      have HR := Hid.intro' hr
      have HLX : Hid (∀ x ∈ l, 0 ≤ x ∧ x < s.ws.length) := fun x hx => HRG.out x (List.mem_flatten.2 ⟨l, List.mem_of_getElem? HL.out, hx⟩)
      have hln : l.length ≤ 1000 := HLL.out l (List.mem_of_getElem? hl)
      have HQ2 : Hid (Wq w wr cb s (fun g => g < w.heap.size) (.slice ac s.cs.length kc) (.slice aw s.ws.length kw) (.slice ap p.length kp) p (RM.wto s.st s.ws s.cs p r l k 0)) := by
        show Wq _ _ _ _ _ _ _ _ _ _
        rw [RM.wto_zero]; exact HQ.out
      clear hl hr HQ
      go_wp2_with fail
      generalize wr = W3 at HQ2 ⊢
      go_loopw [7] (fun i wr => ∃ j : Nat, j ≤ l.length ∧ i = .int .i64 (j : Int) ∧ Hid (Wq w wr cb s (fun g => g < w.heap.size) (.slice ac s.cs.length kc) (.slice aw s.ws.length kw) (.slice ap p.length kp) p (RM.wto s.st s.ws s.cs p r l k j))) (fun i _ => l.length - (intOf i).toNat)
      case atStart => exact ⟨0, Nat.zero_le _, rfl, HQ2⟩
      case round =>
        clear HQ2
        obtain ⟨j, hj, rfl, HQ⟩ := hrel
        obtain ⟨gp, op, rfl, u, hcu, hru⟩ := HQ.out.rp.at HL.out
        obtain ⟨au, ku, rfl, _, _⟩ := hru.form
        have HRU := Hid.intro' hru
        have HCU := Hid.intro' hcu
        by_cases hjl : j < l.length
        · have hjz : (j : Int) < (l.length : Int) := by omega
          obtain ⟨x, hx⟩ : ∃ x, l[j]? = some x := ⟨_, List.getElem?_eq_getElem hjl⟩
          have hxr := HLX.out x (List.mem_of_getElem? hx)
          obtain ⟨i, rfl⟩ : ∃ i : Nat, x = (i : Int) := ⟨x.toNat, by omega⟩
          obtain ⟨gu, ou, rfl, hcx⟩ := HRU.out.at hx
          obtain ⟨T, HT⟩ : ∃ T, Hid (RM.ar s.st (RM.go s.st (RM.bg r) ((l.take j).map (RM.wf s.ws))) (RM.wf s.ws (i : Int)) = T) := ⟨_, Hid.intro' rfl⟩
          have HB2 : Hid (∀ w', Below wr.drew.heap.size wr.drew w' → Below wr.heap.size wr w') := fun w' hw => ((Below.refl _ wr).drew).trans hw
          have HNB : Hid (∀ w', Below wr.drew.heap.size wr.drew w' → NB w' w.heap.size s.st (.slice ac s.cs.length kc) (.slice aw s.ws.length kw)) := fun w' hw => HQ.out.nb.below' (HB2.out w' hw)
          have HCW : Hid (∀ w', Below wr.drew.heap.size wr.drew w' → w'.cell? ⟨gp, op + k, none⟩ = some (.slice (some ⟨gu, ou, none⟩) l.length ku)) := fun w' hw => by
            have h1 := (HQ.out.rp.below' (HB2.out w' hw))
            have hlt2 : gp < wr.heap.size := cell_lt HCU.out
            exact ((HB2.out w' hw).cell (p := ⟨gp, op + k, none⟩) hlt2).trans HCU.out
          have HCX : Hid (∀ w', Below wr.drew.heap.size wr.drew w' → w'.cell? ⟨gu, ou + j, none⟩ = some (.int .i64 (i : Int))) := fun w' hw => ((HB2.out w' hw).cell (p := ⟨gu, ou + j, none⟩) (cell_lt hcx)).trans hcx
          have HTM : Hid (∀ w', Below wr.drew.heap.size wr.drew w' → Calls Try.prog 64 #[.agg (nv s.st (.slice ac s.cs.length kc) (.slice aw s.ws.length kw)).toArray, .int .i64 (k : Int), .slice (some ⟨gu, ou, none⟩) l.length ku, .int .i64 (j : Int)] w' fun e w'' => e = .returned (.int .i64 T) ∧ Below w'.heap.size w' w'') := fun w' hw => by
            have hb := HB2.out w' hw
            exact rtime_at s _ _ _ _ k j r l w' (HQ.out.rc.below' hb) (HQ.out.rw.below' hb) (HRU.out.below' hb) HR.out (i : Int) hx HZ.out HLX.out (by omega) (by have := HAF.out r (List.mem_of_getElem? HR.out); omega) T HT
          have HST : Hid (RM.wto s.st s.ws s.cs p r l k (j + 1) = (RM.wto s.st s.ws s.cs p r l k j).set i T) := by
            show _ = _
            rw [RM.wto_succ hx, Int.toNat_natCast, HT.out]
          have hiw : i < s.ws.length := by omega
          have hcx2 := hcx
          clear hx hru hxr hcx2
          go_wp2_with fail
          clear hcu hcx
          refine wp_region_tail 17 (by kernel_rfl) (by kernel_rfl) ?_
          simp only [List.take_succ_cons, List.take_zero, List.drop_succ_cons, List.drop_zero]
          unfold wpCalm
          generalize hK : wpCalm Try.prog _ _ _ _ = K
          unfold Oper.calm
          go_simp
          refine ⟨_, fun _ _ => rfl, ?_⟩
          subst hK
          unfold wpCalm
          generalize hK : wpCalm Try.prog _ _ _ _ = K
          unfold Oper.calm
          go_simp
          refine ⟨_, fun _ _ => rfl, ?_⟩
          subst hK
          unfold wpCalm
          generalize hK : wpCalm Try.prog _ _ _ _ = K
          unfold Oper.calm
          go_simp
          refine ⟨_, fun _ _ => rfl, ?_⟩
          subst hK
          unfold wpCalm
          generalize hK : wpCalm Try.prog _ _ _ _ = K
          rw [if_pos (by go_simp)]
          refine calm_ixP _ _ rfl rfl rfl hlt ?_
          go_simp
          subst hK
          unfold wpCalm
          generalize hK : wpCalm Try.prog _ _ _ _ = K
          rw [if_pos (by go_simp)]
          refine calm_loadLI _ _ _ rfl rfl HCW.out ?_
          go_simp
          subst hK
          unfold wpCalm
          generalize hK : wpCalm Try.prog _ _ _ _ = K
          unfold Oper.calm
          go_simp
          refine ⟨_, fun _ _ => rfl, ?_⟩
          subst hK
          unfold wpCalm
          generalize hK : wpCalm Try.prog _ _ _ _ = K
          rw [if_pos (by go_simp)]
          refine calm_ixI _ _ rfl rfl rfl hjl ?_
          go_simp
          subst hK
          unfold wpCalm
          generalize hK : wpCalm Try.prog _ _ _ _ = K
          rw [if_pos (by go_simp)]
          refine calm_load3 _ _ _ rfl rfl HCX.out ?_
          go_simp
          subst hK
          unfold wpCalm
          generalize hK : wpCalm Try.prog _ _ _ _ = K
          rw [if_pos (by go_simp)]
          refine calm_load27 _ w.heap.size s.st _ _ rfl rfl HNB.out ?_
          go_simp
          subst hK
          unfold wpCalm
          generalize hK : wpCalm Try.prog _ _ _ _ = K
          unfold Oper.calm
          go_simp
          refine ⟨_, fun _ _ => rfl, ?_⟩
          subst hK
          unfold wpCalm
          generalize hK : wpCalm Try.prog _ _ _ _ = K
          unfold Oper.calm
          go_simp
          refine ⟨_, fun _ _ => rfl, ?_⟩
          subst hK
          unfold wpCalm
          generalize hK : wpCalm Try.prog _ _ _ _ = K
          unfold Oper.calm
          go_simp
          refine ⟨_, fun _ _ => rfl, ?_⟩
          subst hK
          unfold wpCalm
          generalize hK : wpCalm Try.prog _ _ _ _ = K
          rw [if_pos (by go_simp)]
          refine calm_ixP _ _ rfl rfl rfl hlt ?_
          go_simp
          subst hK
          unfold wpCalm
          generalize hK : wpCalm Try.prog _ _ _ _ = K
          rw [if_pos (by go_simp)]
          refine calm_loadLI _ _ _ rfl rfl HCW.out ?_
          go_simp
          subst hK
          unfold wpCalm
          generalize hK : wpCalm Try.prog _ _ _ _ = K
          unfold Oper.calm
          go_simp
          refine ⟨_, fun _ _ => rfl, ?_⟩
          subst hK
          unfold wpCalm
          generalize hK : wpCalm Try.prog _ _ _ _ = K
          unfold Oper.calm
          go_simp
          refine ⟨_, fun w' hw => HTM.out w' hw, ?_⟩
          subst hK
          unfold wpCalm
          generalize hK : wpCalm Try.prog _ _ _ _ = K
          rw [if_pos (by go_simp)]
          refine calm_ixI _ _ rfl rfl rfl hiw ?_
          go_simp
          subst hK
          refine wpCalm_nil ?_
          intro W4 hb4
          have HQ4 := Hid.intro' (HQ.out.next (HB2.out W4 hb4))
          obtain ⟨y, hy⟩ : ∃ y, (RM.wto s.st s.ws s.cs p r l k j)[i]? = some y := ⟨_, List.getElem?_eq_getElem (by rw [RM.wto_length]; exact hiw)⟩
          have s4 : W4.cell? ⟨cb, i, none⟩ = some (.int .i64 y) := HQ4.out.ow.cell hy
          have t4 := HQ4.out.ow.fr i
          have HQ5 := Hid.intro' (HQ4.out.put i T)
          rw [← HST.out] at HQ5
          clear hy hb4 HB2 HNB HCW HCX HTM HQ HQ4 HRU HCU
          go_wp2
          go_roundw
          case rel => exact ⟨j + 1, by omega, by go_num, HQ5⟩
          case measure => simp [intOf]; omega
        · have hjz : ¬ (j : Int) < (l.length : Int) := by omega
          have HQ2 : Hid (Wq w wr cb s (fun g => g < w.heap.size) (.slice ac s.cs.length kc) (.slice aw s.ws.length kw) (.slice (some ⟨gp, op, none⟩) p.length kp) p (RM.wtk s.st s.ws s.cs p (k + 1))) := by
            show Wq _ _ _ _ _ _ _ _ _ _
            rw [← RM.wto_end HR.out HL.out, show l.length = j by omega]; exact HQ.out
          go_wp2
          go_roundw
          case rel => exact ⟨k + 1, by omega, by go_num, HQ2⟩
          case measure => simp [intOf]; omega
    · have hkz : ¬ (k : Int) < (p.length : Int) := by omega
      have HE : Hid (OI wr w.heap.size (.slice (some ⟨cb, 0, none⟩) s.ws.length s.ws.length) (RM.wts s.st s.ws s.cs p) ∧ Below w.heap.size w wr) := by
        have h1 := HQ.out.ow
        rw [RM.wtk_end (by have := HPC.out; omega) (by omega)] at h1
        exact ⟨h1.mono (by omega), HQ.out.bel⟩
      go_wp2
      go_ret
      exact ⟨_, rfl, HE.out.1, HE.out.2⟩
end Go.Proofs.Ytagmidolcdefiah

/- The cost, as the document tells it; whether two lists are one. -/
namespace Go.Proofs.Ytagmidolcdefiah
open Go.RowKit
namespace RM
theorem put_mem {t : Int} : ∀ {q : List (Int × Int)} {o : List Int}, t ∈ put o q → t ∈ o ∨ ∃ x ∈ q, x.2 = t
  | [], _, h => .inl h
  | x :: q, o, h => by
    rcases put_mem (q := q) (o := o.set x.1.toNat x.2) h with h | ⟨y, hy, e⟩
    · rcases List.mem_or_eq_of_mem_set h with h | h
      · exact .inl h
      · exact .inr ⟨x, by simp, h.symm⟩
    · exact .inr ⟨y, by simp [hy], e⟩
theorem prs_bd {s : St} {ws cs : List (Int × Int)} {p : List (List Int)} (z : Rz s ws cs) (hp : ∀ x ∈ p.flatten, 0 ≤ x ∧ x < ws.length) (hc : ∀ r ∈ cs, r.2 ≤ 1000000) (hl : ∀ l ∈ p, l.length ≤ 1000) : ∀ x ∈ prs s ws cs p, 0 ≤ x.2 ∧ x.2 ≤ 80000000 := fun x hx => by
  obtain ⟨w, t⟩ := x
  obtain ⟨c, i, r, l, h1, h2, h3, h4⟩ := prs_where hx
  have hall : ∀ x ∈ l, 0 ≤ x ∧ x < ws.length := fun x hx => hp x (List.mem_flatten.2 ⟨l, List.mem_of_getElem? h2, hx⟩)
  have hin := z.inn (l := l.take i) fun x hx => hall x (List.mem_of_mem_take hx)
  have ok0 := z.cr r (List.mem_of_getElem? h1)
  have ok := go_ok z.rt ok0 hin
  have g1 := ar_nn z.rt ok (wf ws w)
  have g2 := ar_le z.rt ok (wf ws w)
  have g3 := go_le z.rt ok0 hin
  have g4 := hc r (List.mem_of_getElem? h1)
  have g5 := hl l (List.mem_of_getElem? h2)
  have g6 := (List.getElem?_eq_some_iff.1 h3).1
  rw [List.length_map, List.length_take] at g3
  have g7 : (bg r).le = r.2 := rfl
  show 0 ≤ t ∧ t ≤ _
  omega
theorem wts_bd {s : St} {ws cs : List (Int × Int)} {p : List (List Int)} (z : Rz s ws cs) (hp : ∀ x ∈ p.flatten, 0 ≤ x ∧ x < ws.length) (hc : ∀ r ∈ cs, r.2 ≤ 1000000) (hl : ∀ l ∈ p, l.length ≤ 1000) : ∀ t ∈ wts s ws cs p, 0 ≤ t ∧ t ≤ 80000000 := fun t ht => by
  rcases put_mem ht with h | ⟨x, hx, e⟩
  · rw [List.mem_replicate] at h; omega
  · rw [← e]; exact prs_bd z hp hc hl x hx
theorem sum_bd {B : Int} : ∀ {l : List Int}, (∀ t ∈ l, 0 ≤ t ∧ t ≤ B) → 0 ≤ l.sum ∧ l.sum ≤ B * (l.length : Int)
  | [], _ => by simp
  | a :: l, h => by
    have h1 := h a (by simp)
    have h2 := sum_bd (l := l) fun t ht => h t (by simp [ht])
    rw [List.sum_cons, List.length_cons, Int.natCast_add, Int.mul_add]
    omega
end RM
/-- what is known of a plan that may be -/
structure Fs (s : Sn) (p : List (List Int)) : Prop where
  rg : rgt s = true
  rz : RM.Rz s.st s.ws s.cs
  fz : PM.Fz (msk s) p
  pc : s.cs.length = p.length
  ml : (msk s).length = s.ws.length
  wl : s.ws.length ≤ 128
  p1 : 1 ≤ p.length
  p8 : p.length ≤ 8
  fr : ∀ x ∈ p.flatten, 0 ≤ x ∧ x < s.ws.length
  af : ∀ r ∈ s.cs, r.2 ≤ 1000000
theorem fsb_fs {s : Sn} {p : List (List Int)} (hf : fsb s p = true) : Fs s p := by
  have hf3 : rgt s = true ∧ p.length = s.cs.length ∧ PM.feas (msk s) p = true := by unfold fsb at hf; simp [Bool.and_eq_true] at hf; exact ⟨hf.1.1, hf.1.2, hf.2⟩
  obtain ⟨n, hrs⟩ := rgt_rs hf3.1
  have h1 := hrs.cl
  have h2 := hrs.n8
  have h3 := hrs.n1
  have h4 := hf3.2.1
  refine ⟨hf3.1, rgt_rz hf3.1, PM.feas_iff.1 hf3.2.2, hf3.2.1.symm, hrs.mm.len, hrs.wl, by omega, by omega, fun x hx => ?_, rgt_after hf3.1⟩
  have := RM.fz_range (PM.feas_iff.1 hf3.2.2) x hx
  rw [show (msk s).length = s.ws.length from hrs.mm.len] at this
  exact this
/-- what a plan costs -/
theorem Fs.sum {s : Sn} {p : List (List Int)} (h : Fs s p) : (RM.wts s.st s.ws s.cs p).sum = RM.cst s.st s.ws s.cs p := RM.wts_sum h.fz h.ml h.pc
theorem Fs.bd {s : Sn} {p : List (List Int)} (h : Fs s p) (hl : ∀ l ∈ p, l.length ≤ 1000) : ∀ t ∈ RM.wts s.st s.ws s.cs p, 0 ≤ t ∧ t ≤ 80000000 := RM.wts_bd h.rz h.fr h.af hl
theorem Fs.cost {s : Sn} {p : List (List Int)} (h : Fs s p) (hl : ∀ l ∈ p, l.length ≤ 1000) : 0 ≤ RM.cst s.st s.ws s.cs p ∧ RM.cst s.st s.ws s.cs p ≤ 10240000000 := by
  have h1 := RM.sum_bd (h.bd hl)
  rw [h.sum, RM.wts_length] at h1
  have := h.wl
  omega
set_option maxHeartbeats 4000000 in
theorem rcost_any (s : Sn) (D : Nat → Prop) (vc vw vp : Value) (p : List (List Int)) (w : World) (hc : R2 D w vc s.cs) (hw : R2 D w vw s.ws) (hp : RL D w vp p) (hf : fsb s p = true) (hll : ∀ l ∈ p, l.length ≤ 1000) :
    Calls Try.prog 17 #[.agg (nv s.st vc vw).toArray, vp] w fun e w' => e = .returned (.int .i64 (RM.cst s.st s.ws s.cs p)) ∧ Below w.heap.size w w' := by
  have HFS := Hid.intro' (fsb_fs hf)
  have hbx := (Below.refl w.heap.size w).alloc (Nat.le_refl _) (.cells (nv s.st vc vw).toArray 27)
  have HN := Hid.intro' (NB.new w s.st vc vw)
  have HB := Hid.intro' hbx
  have HRW := Hid.intro' (rwaits_any s D vc vw vp p _ (hc.below' hbx) (hw.below' hbx) (hp.below' hbx) hf hll)
  have HS := Hid.intro' (fsb_fs hf).sum
  have HL : Hid ((RM.wts s.st s.ws s.cs p).length = s.ws.length) := RM.wts_length
  have hwl : s.ws.length ≤ 128 := (fsb_fs hf).wl
  have HBD := Hid.intro' ((fsb_fs hf).bd hll)
  clear hc hw hp hf hll hbx
  generalize hwt : RM.wts s.st s.ws s.cs p = ts at HRW HS HL HBD
  clear hwt
  generalize RM.cst s.st s.ws s.cs p = cst at HS
  go_enter Try.func17, Try.ntmps17
  go_wp2_with (refine wpList_load27g rfl _ rfl w.heap.size s.st _ _ rfl HN.out ?_)
  refine HRW.out.mono ?_
  rintro e W1 ⟨v, rfl, ho, hb1⟩
  obtain ⟨av, kv, rfl⟩ := ho.slice
  rw [HL.out] at ho ⊢
  have HO := Hid.intro' ho
  have HB1 := Hid.intro' (below_class HB.out hb1)
  clear ho hb1 HN HRW HB
  go_wp2_with fail
  go_loopw [6, 7] (fun n i wr => ∃ (j : Nat) (t : Int), j ≤ s.ws.length ∧ i = .int .i64 (j : Int) ∧ n = .int .i64 t ∧ Hid (wr = W1) ∧ Hid (t = (ts.take j).sum)) (fun _ i _ => s.ws.length - (intOf i).toNat)
  case atStart => exact ⟨0, 0, Nat.zero_le _, rfl, rfl, rfl, by show _ = _; simp⟩
  case round =>
    obtain ⟨j, t, hj, rfl, rfl, HW1, HT⟩ := hrel
    obtain rfl : wr = W1 := HW1.out
    by_cases hlt : j < s.ws.length
    · have hjz : (j : Int) < (s.ws.length : Int) := by omega
      obtain ⟨y, hy⟩ : ∃ y, ts[j]? = some y := ⟨_, List.getElem?_eq_getElem (by have := HL.out; omega)⟩
      obtain ⟨gv, ov, rfl, hcy⟩ := (HO.out.ri (D := fun _ => True) fun _ _ => trivial).at hy
      have hyb := HBD.out y (List.mem_of_getElem? hy)
      have hsb := RM.sum_bd (B := 80000000) (l := ts.take j) fun t ht => HBD.out t (List.mem_of_mem_take ht)
      rw [← HT.out, List.length_take] at hsb
      have HT2 : Hid (t + y = (ts.take (j + 1)).sum) := by
        show _ = _
        rw [take_snoc hy, List.sum_append, ← HT.out]; simp
      have hw1 : IntKind.i64.wrap (t + y) = t + y := IntWalk.i64_in _ (by omega)
      clear hy hyb hsb
      go_wp2
      go_roundw
      case rel => exact ⟨j + 1, t + y, by omega, by go_num, by go_num, trivial, HT2⟩
      case measure => simp [intOf]; omega
    · have hjz : ¬ (j : Int) < (s.ws.length : Int) := by omega
      have HE : Hid (t = cst) := by
        show t = _
        rw [HT.out, List.take_of_length_le (by have := HL.out; omega)]; exact HS.out
      go_wp2
      go_ret
      exact ⟨ret_int HE.out, HB1.out⟩
end Go.Proofs.Ytagmidolcdefiah
