/- When a want is served, as the document tells it. -/
import Derived.Test.YtkcppidmbojglagMth
import Derived.Test.YtkcppidmbojglagBas
import Derived.Test.YtkcppidmbojglagDrf
import Derived.Test.YtkcppidmbojglagPlC
namespace Go.Proofs.Ytkcppidmbojglag
open Go.RowKit

theorem take_snoc {α : Type} {l : List α} {j : Nat} {y : α} (h : l[j]? = some y) : l.take (j + 1) = l.take j ++ [y] := by rw [List.take_add_one, h]; rfl
/-- a snapshot that is right has routes -/
theorem rgt_rz {s : Sn} (h : rgt s = true) : RM.Rz s.st s.ws s.cs := by
  unfold rgt at h
  simp only [Bool.and_eq_true, decide_eq_true_eq] at h
  obtain ⟨⟨⟨⟨h1, _⟩, _⟩, h4⟩, h5⟩ := h
  rw [List.all_eq_true] at h4 h5
  refine ⟨(rightB_iff _).1 h1, fun r hr => ?_, fun y hy => ?_⟩
  · have := h4 r hr
    unfold cok at this
    simp only [Bool.and_eq_true, decide_eq_true_eq] at this
    exact RM.bg_ok this.1.1.1 this.1.1.2 this.1.2
  · have := wok_iff'.1 (h5 y hy)
    exact ⟨this.1, this.2.1⟩
theorem rgt_after {s : Sn} (h : rgt s = true) : ∀ r ∈ s.cs, r.2 ≤ 1000000 := fun r hr => by
  unfold rgt at h
  simp only [Bool.and_eq_true, decide_eq_true_eq] at h
  obtain ⟨⟨⟨⟨_, _⟩, _⟩, h4⟩, _⟩ := h
  rw [List.all_eq_true] at h4
  have := h4 r hr
  unfold cok at this
  simp only [Bool.and_eq_true, decide_eq_true_eq] at this
  exact this.2

set_option maxHeartbeats 4000000 in
theorem rtime_at (s : Sn) (D : Nat → Prop) (vc vw vl : Value) (c i : Nat) (r : Int × Int) (l : List Int) (w : World) (hc : R2 D w vc s.cs) (hw : R2 D w vw s.ws) (hl : RI D w vl l) (hr : s.cs[c]? = some r) (x : Int) (hi : l[i]? = some x)
    (z : RM.Rz s.st s.ws s.cs) (hx : ∀ x ∈ l, 0 ≤ x ∧ x < s.ws.length) (hib : i ≤ 1000) (hra : r.2 ≤ 10000000) (T : Int) (HTT : Hid (RM.ar s.st (RM.go s.st (RM.bg r) ((l.take i).map (RM.wf s.ws))) (RM.wf s.ws x) = T)) :
    Calls Try.prog 25 #[.agg (nv s.st vc vw).toArray, .int .i64 (c : Int), vl, .int .i64 (i : Int)] w fun e w' => e = .returned (.int .i64 T) ∧ Below w.heap.size w w' := by
  have hbx := (Below.refl w.heap.size w).alloc (Nat.le_refl _) (.cells (nv s.st vc vw).toArray 27)
  have HN := Hid.intro' (NB.new w s.st vc vw)
  have HB := Hid.intro' hbx
  have HW := Hid.intro' (hw.below' hbx)
  have HL := Hid.intro' (hl.below' hbx)
  obtain ⟨ac, kc, rfl, _, _⟩ := hc.form
  obtain ⟨aw, kw, rfl, _, _⟩ := hw.form
  obtain ⟨al, kl, rfl, _, _⟩ := hl.form
  obtain ⟨gc, oc, rfl, e1, e2⟩ := (hc.below' hbx).at hr
  have c13 : (w.alloc (.cells (nv s.st (.slice (some ⟨gc, oc, none⟩) s.cs.length kc) (.slice aw s.ws.length kw)).toArray 27)).cell? ⟨w.heap.size, 13, none⟩ = some (.slice (some ⟨gc, oc, none⟩) s.cs.length kc) := HN.out.cell 13
  have hcz : (c : Int) < (s.cs.length : Int) := by have := (List.getElem?_eq_some_iff.1 hr).1; omega
  have HOK := Hid.intro' (z.cr r (List.mem_of_getElem? hr))
  have HZ := Hid.intro' z
  have HX := Hid.intro' hx
  have HI := Hid.intro' hi
  have HRA := Hid.intro' hra
  have hil : i < l.length := (List.getElem?_eq_some_iff.1 hi).1
  clear hc hw hl hbx hr hi hx z hra
  go_enter Try.func25, Try.ntmps25
  go_wp2_with fail
  clear c13 e1 e2
  generalize w.alloc (.cells (nv s.st (.slice (some ⟨gc, oc, none⟩) s.cs.length kc) (.slice aw s.ws.length kw)).toArray 27) = X at HN HB HW HL ⊢
  go_loopw [9, 10, 11, 12] (fun tv fv hv iv W => ∃ (j : Nat) (t fa ha la : Int), j ≤ i + 1 ∧ tv = .int .i64 t ∧ fv = .int .i64 fa ∧ hv = .int .i64 ha ∧ iv = .int .i64 (j : Int) ∧ Hid ((⟨fa, ha, la⟩ : RM.Sp) = RM.go s.st (RM.bg r) ((l.take j).map (RM.wf s.ws))) ∧ Hid (ha = -1 → t = la) ∧ Hid (RM.Ok s.st ⟨fa, ha, la⟩) ∧ Hid (la ≤ r.2 + 68002 * (j : Int)) ∧ Hid (Below X.heap.size X W)) (fun _ _ _ iv _ => i + 1 - (intOf iv).toNat)
  case atStart => exact ⟨0, r.2, r.1, -1, r.2, Nat.zero_le _, rfl, rfl, rfl, rfl, rfl, fun _ => rfl, HOK, by show r.2 ≤ _; omega, Below.refl _ _⟩
  case round =>
    obtain ⟨j, t, fa, ha, la, hj, rfl, rfl, rfl, rfl, HA, HT, HO, HLE, HBW⟩ := hrel
    by_cases hlt : j ≤ i
    · have hjz : (j : Int) ≤ (i : Int) := by omega
      obtain ⟨y, hy⟩ : ∃ y, l[j]? = some y := ⟨_, List.getElem?_eq_getElem (by omega)⟩
      have hyr := HX.out y (List.mem_of_getElem? hy)
      obtain ⟨k, rfl⟩ : ∃ k : Nat, y = (k : Int) := ⟨y.toNat, by omega⟩
      obtain ⟨gl, ol, rfl, hcy⟩ := (HL.out.below' HBW.out).at hy
      obtain ⟨q, hq⟩ : ∃ q, s.ws[k]? = some q := ⟨_, List.getElem?_eq_getElem (by omega)⟩
      obtain ⟨gw, ow, rfl, hcq, _⟩ := (HW.out.below' HBW.out).at hq
      have hkz : (k : Int) < (s.ws.length : Int) := by omega
      have hjl : (j : Int) < (l.length : Int) := by omega
      have HN1 := Hid.intro' (HN.out.below' HBW.out)
      have c14 : wr.cell? ⟨w.heap.size, 14, none⟩ = some (.slice (some ⟨gw, ow, none⟩) s.ws.length kw) := HN1.out.cell 14
      have HWF : Hid (RM.wf s.ws (k : Int) = q.1) := RM.wf_get hq
      have HFR := Hid.intro' (HZ.out.wf hyr.1 hyr.2)
      have HA2 : Hid (RM.nx s.st ⟨fa, ha, la⟩ q.1 = RM.go s.st (RM.bg r) ((l.take (j + 1)).map (RM.wf s.ws))) := by
        show _ = _
        rw [take_snoc hy, List.map_append, RM.go_append, ← HA.out, List.map_cons, List.map_nil, HWF.out]; rfl
      rw [HWF.out] at HFR
      obtain ⟨q1, q2⟩ := q
      have HO2 := Hid.intro' (RM.nx_ok HZ.out.rt HO.out HFR.out.1 HFR.out.2)
      have HAL := Hid.intro' (RM.ar_le HZ.out.rt HO.out q1)
      have HAN := Hid.intro' (RM.ar_nn HZ.out.rt HO.out q1)
      have HDW := Hid.intro' (RM.dw_bd HZ.out.rt)
      have HTR := Hid.intro' (SM.trav_bd HZ.out.rt fa q1)
      have HLN := Hid.intro' HO.out.l0
      have HLL := Hid.intro' (show la ≤ 80000000 by have := HLE.out; have := HRA.out; omega)
      clear hy hq hyr
      simp only at hcq
      by_cases hh : ha = -1
      · subst hh
        have HNX : Hid (RM.nx s.st ⟨fa, -1, la⟩ q1 = ⟨q1, la + SM.trav s.st fa q1, la + SM.trav s.st fa q1 + RM.dw s.st⟩) := by
          show _ = _
          unfold RM.nx
          rw [if_neg (fun h => h.1 rfl)]
        have htl : t = la := HT.out rfl
        subst htl
        go_wp2_with fail
        go_region
        clear hcy hcq c14
        have HN2 := Hid.intro' HN1.out.drew
        have HBW2 := Hid.intro' HBW.out.drew
        generalize wr.drew = Wd at HN2 HBW2 ⊢
        go_wp2_with (refine wpList_load23n rfl _ rfl w.heap.size s.st _ _ rfl HN2.out ?_)
        refine (rtravel_any s.st HZ.out.rt fa q1 _).mono ?_
        rintro e W3 ⟨rfl, hb3⟩
        have HB3 := Hid.intro' (below_class HBW2.out hb3)
        generalize hTR : SM.trav s.st fa q1 = tr at HTR HNX
        have hw1 : IntKind.i64.wrap (t + tr) = t + tr := IntWalk.i64_in _ (by have := HTR.out; have := HLL.out; have := HLN.out; omega)
        clear hb3 hTR
        go_wp2
        go_roundw
        case rel =>
          refine ⟨j + 1, _, q1, t + tr, t + tr + RM.dw s.st, by omega, rfl, rfl, by go_num, by go_num, ?_, ?_, ?_, ?_, HB3⟩
          · have h1 := HA2.out; rw [HNX.out] at h1; exact h1
          · intro h2; have := HTR.out; have := HLN.out; omega
          · have h1 := HO2.out; rw [HNX.out] at h1; exact h1
          · show t + tr + RM.dw s.st ≤ _
            have := HTR.out; have := HDW.out; have := HLE.out
            omega
        case measure => simp [intOf]; omega
      · have HH := Hid.intro' (show 0 ≤ ha ∧ la = ha + RM.dw s.st from HO.out.hh.resolve_left hh)
        have hge : 0 ≤ ha := HH.out.1
        by_cases hf : q1 = fa
        · subst hf
          have HNX : Hid (RM.nx s.st ⟨q1, ha, la⟩ q1 = ⟨q1, ha, la⟩) := by
            show _ = _
            unfold RM.nx
            rw [if_pos ⟨hh, rfl⟩]
          clear hh
          go_wp2_with fail
          go_region
          clear hcy hcq c14
          have HBW2 := Hid.intro' HBW.out.drew
          generalize wr.drew = Wd at HBW2 ⊢
          go_wp2
          go_roundw
          case rel =>
            refine ⟨j + 1, t, q1, ha, la, by omega, rfl, rfl, rfl, by go_num, ?_, HT, HO, ?_, HBW2⟩
            · have h1 := HA2.out; rw [HNX.out] at h1; exact h1
            · show la ≤ _
              have := HLE.out
              omega
          case measure => simp [intOf]; omega
        · have HNX : Hid (RM.nx s.st ⟨fa, ha, la⟩ q1 = ⟨q1, la + SM.trav s.st fa q1, la + SM.trav s.st fa q1 + RM.dw s.st⟩) := by
            show _ = _
            unfold RM.nx
            rw [if_neg (fun h => hf h.2.symm)]
          have hfz : (q1 == fa) = false := by rw [beq_eq_false_iff_ne]; exact hf
          clear hh
          go_wp2_with fail
          go_region
          clear hcy hcq c14
          have HN2 := Hid.intro' HN1.out.drew
          have HBW2 := Hid.intro' HBW.out.drew
          generalize wr.drew = Wd at HN2 HBW2 ⊢
          have c5 : Wd.cell? ⟨w.heap.size, 5, none⟩ = some (.int .i64 s.st.opn) := HN2.out.cell 5
          have c6 : Wd.cell? ⟨w.heap.size, 6, none⟩ = some (.int .i64 s.st.wai) := HN2.out.cell 6
          have c7 : Wd.cell? ⟨w.heap.size, 7, none⟩ = some (.int .i64 s.st.clo) := HN2.out.cell 7
          have o1 := HZ.out.rt.opn1; have o2 := HZ.out.rt.opn2; have o3 := HZ.out.rt.wai1; have o4 := HZ.out.rt.wai2; have o5 := HZ.out.rt.clo1; have o6 := HZ.out.rt.clo2
          have HHB := Hid.intro' (show ha ≤ 80000000 by have := HH.out.2; have := HDW.out; have := HLL.out; omega)
          have w1 : IntKind.i64.wrap (ha + s.st.opn) = ha + s.st.opn := IntWalk.i64_in _ (by have := HHB.out; omega)
          have w2 : IntKind.i64.wrap (ha + s.st.opn + s.st.wai) = ha + s.st.opn + s.st.wai := IntWalk.i64_in _ (by have := HHB.out; omega)
          have w3 : IntKind.i64.wrap (ha + s.st.opn + s.st.wai + s.st.clo) = ha + s.st.opn + s.st.wai + s.st.clo := IntWalk.i64_in _ (by have := HHB.out; omega)
          have w4 : IntKind.i64.wrap (ha + s.st.opn + s.st.wai + s.st.clo + 2) = la := by rw [IntWalk.i64_in _ (by have := HHB.out; omega)]; have := HH.out.2; unfold RM.dw at this; omega
          clear o1 o2 o3 o4 o5 o6
          go_wp2_with (refine wpList_load23n rfl _ rfl w.heap.size s.st _ _ rfl HN2.out ?_)
          refine (rtravel_any s.st HZ.out.rt fa q1 _).mono ?_
          rintro e W3 ⟨rfl, hb3⟩
          have HB3 := Hid.intro' (below_class HBW2.out hb3)
          generalize hTR : SM.trav s.st fa q1 = tr at HTR HNX
          have hw1 : IntKind.i64.wrap (la + tr) = la + tr := IntWalk.i64_in _ (by have := HTR.out; have := HLL.out; have := HLN.out; omega)
          clear hb3 hTR
          go_wp2
          go_roundw
          case rel =>
            refine ⟨j + 1, _, q1, la + tr, la + tr + RM.dw s.st, by omega, rfl, rfl, by go_num, by go_num, ?_, ?_, ?_, ?_, HB3⟩
            · have h1 := HA2.out; rw [HNX.out] at h1; exact h1
            · intro h2; have := HTR.out; have := HLN.out; omega
            · have h1 := HO2.out; rw [HNX.out] at h1; exact h1
            · show la + tr + RM.dw s.st ≤ _
              have := HTR.out; have := HDW.out; have := HLE.out
              omega
          case measure => simp [intOf]; omega
    · have hjz : ¬ (j : Int) ≤ (i : Int) := by omega
      have HE : Hid (ha = T) := by
        show _ = _
        have h1 := HA.out
        rw [show j = i + 1 by omega, take_snoc HI.out, List.map_append, RM.go_append] at h1
        have h2 : (⟨fa, ha, la⟩ : RM.Sp) = RM.nx s.st (RM.go s.st (RM.bg r) ((l.take i).map (RM.wf s.ws))) (RM.wf s.ws x) := h1
        rw [RM.nx_eq (RM.go_ok HZ.out.rt HOK.out (HZ.out.inn fun y hy => HX.out y (List.mem_of_mem_take hy)))] at h2
        rw [← HTT.out]
        exact congrArg RM.Sp.he h2
      have HBE := Hid.intro' (below_class HB.out HBW.out)
      go_wp2
      go_ret
      exact ⟨ret_int HE.out, HBE.out⟩

theorem rtime_any (s : Sn) (D : Nat → Prop) (vc vw vl : Value) (c i : Nat) (r : Int × Int) (l : List Int) (w : World) (hc : R2 D w vc s.cs) (hw : R2 D w vw s.ws) (hl : RI D w vl l) (hr : s.cs[c]? = some r) (x : Int) (hi : l[i]? = some x)
    (z : RM.Rz s.st s.ws s.cs) (hx : ∀ x ∈ l, 0 ≤ x ∧ x < s.ws.length) (hib : i ≤ 1000) (hra : r.2 ≤ 10000000) :
    Calls Try.prog 25 #[.agg (nv s.st vc vw).toArray, .int .i64 (c : Int), vl, .int .i64 (i : Int)] w fun e w' => e = .returned (.int .i64 (RM.ar s.st (RM.go s.st (RM.bg r) ((l.take i).map (RM.wf s.ws))) (RM.wf s.ws x))) ∧ Below w.heap.size w w' :=
  rtime_at s D vc vw vl c i r l w hc hw hl hr x hi z hx hib hra _ rfl

end Go.Proofs.Ytkcppidmbojglag
