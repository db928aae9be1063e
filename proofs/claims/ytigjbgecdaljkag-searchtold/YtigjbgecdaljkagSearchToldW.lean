/- SearchTold. -/
import Derived.Test.YtigjbgecdaljkagSlB
import Derived.Test.YtigjbgecdaljkagSlD
import Derived.Test.YtigjbgecdaljkagSrS
import Derived.Test.YtigjbgecdaljkagSrG
import Derived.Test.YtigjbgecdaljkagSrQ
import Derived.Test.YtigjbgecdaljkagSrR
namespace Go.Proofs.Ytigjbgecdaljkag
open Go.RowKit Go.Shelf

set_option maxRecDepth 100000 in
set_option maxHeartbeats 4000000 in
theorem SearchTold_any (s : Sn) (D : Nat → Prop) (vc vw : Value) (a1 : Int) (w : World) (hc : R2 D w vc s.cs) (hw : R2 D w vw s.ws) :
    Calls Try.prog 6 #[.agg (nv s.st vc vw).toArray, .int .i64 a1] w fun e w' => e = .returned (.bool true) ∧ Below w.heap.size w w' := by
  have hbx := (Below.refl w.heap.size w).alloc (Nat.le_refl _) (.cells (nv s.st vc vw).toArray 27)
  have HN := Hid.intro' (NB.new w s.st vc vw)
  have HB := Hid.intro' hbx
  have HC := Hid.intro' ((hc.mono (D' := fun _ => True) fun _ _ _ _ => trivial).below' hbx)
  have HW := Hid.intro' ((hw.mono (D' := fun _ => True) fun _ _ _ _ => trivial).below' hbx)
  obtain ⟨ac, kc, rfl, _, _⟩ := hc.form
  obtain ⟨aw, kw, rfl, _, _⟩ := hw.form
  clear hc hw hbx
  go_enter Try.func6, Try.ntmps6
  go_wp2_with fail
  refine (speaks12_any _).mono ?_
  rintro e W1 ⟨rfl, hb1⟩
  have HB1 := Hid.intro' (below_class HB.out hb1)
  have HN1 := Hid.intro' (HN.out.below' hb1)
  have HC1 := Hid.intro' (HC.out.below' hb1)
  have HW1 := Hid.intro' (HW.out.below' hb1)
  clear hb1 HN HB HC HW
  go_wp2_with (refine wpList_load27g rfl _ rfl w.heap.size s.st _ _ rfl HN1.out ?_)
  refine (great_any s _ _ _ _ [] W1 HC1.out HW1.out (RL.nil _ _)).mono ?_
  rintro e W2 ⟨⟨g, rfl, hb2, hs⟩⟩
  have HB2 := Hid.intro' (below_class HB1.out hb2)
  have HN2 := Hid.intro' (HN1.out.below' hb2)
  have HC2 := Hid.intro' (HC1.out.below' hb2)
  have HW2 := Hid.intro' (HW1.out.below' hb2)
  clear hb2 hs HN1 HB1 HC1 HW1
  cases g with
  | true =>
    go_wp2
    go_ret
    exact ⟨rfl, HB2.out⟩
  | false =>
    cases hr : rgt s with
    | false =>
      go_wp2_with (refine wpList_load27g rfl _ rfl w.heap.size s.st _ _ rfl HN2.out ?_)
      refine (first_no s _ _ _ W2 HC2.out HW2.out hr).mono ?_
      rintro e W3 ⟨rfl, hb3⟩
      have HB3 := Hid.intro' (below_class HB2.out hb3)
      have HN3 := Hid.intro' (HN2.out.below' hb3)
      have HC3 := Hid.intro' (HC2.out.below' hb3)
      have HW3 := Hid.intro' (HW2.out.below' hb3)
      clear hb3 HB2 HN2 HC2 HW2
      go_wp2_with (refine wpList_load27g rfl _ rfl w.heap.size s.st _ _ rfl HN3.out ?_)
      refine (rsnapRight_any s _ _ _ W3 HC3.out HW3.out).mono ?_
      rw [hr]
      rintro e W4 ⟨rfl, hb4⟩
      have HB4 := Hid.intro' (below_class HB3.out hb4)
      have HN4 := Hid.intro' (HN3.out.below' hb4)
      have HFZ : Hid (Calls Try.prog 21 #[.agg (nv s.st (.slice ac s.cs.length kc) (.slice aw s.ws.length kw)).toArray, .int .i64 a1] W4 fun e w' => e = .returned (.tuple #[.agg #[.slice none 0 0, .int .i64 0, .bool false, .int .i64 0, .slice none 0 0], .int .i64 1]) ∧ Below W4.heap.size W4 w') := by
        by_cases hin : 1 ≤ a1 ∧ a1 ≤ 1000000
        · exact find_no (HC3.out.below' hb4) (HW3.out.below' hb4) hr hin.1 hin.2
        · exact find_arg (by omega)
      clear hb4 HB3 HN3 HC3 HW3
      go_wp2_with (refine wpList_load27g rfl _ rfl w.heap.size s.st _ _ rfl HN4.out ?_)
      refine HFZ.out.mono ?_
      rintro e W5 ⟨rfl, hb5⟩
      have HB5 := Hid.intro' (below_class HB4.out hb5)
      have hbz := (Below.refl W5.heap.size W5).alloc (Nat.le_refl _) (.cells #[.slice none 0 0, .int .i64 0, .bool false, .int .i64 0, .slice none 0 0] 48)
      have HZ := Hid.intro' (GB.new W5 (.slice none 0 0) 0 false 0 (.slice none 0 0))
      clear hb5 HB4 HN4 HFZ
      go_wp2_with (refine wpList_storeG rfl _ _ rfl W5.heap.size rfl rfl HZ.out ?_)
      intro W6 hk6 hg6
      have HB6 := Hid.intro' (below_class HB5.out (hk6.below hbz (by simp) (fun i hi e => by omega)))
      generalize W5.heap.size = rb at hg6 ⊢
      have p0 : W6.cell? ⟨rb, 0, none⟩ = some (.slice none 0 0) := hg6.cell 0
      have p3 : W6.cell? ⟨rb, 3, none⟩ = some (.int .i64 0) := hg6.cell 3
      have p4 : W6.cell? ⟨rb, 4, none⟩ = some (.slice none 0 0) := hg6.cell 4
      clear hk6 hg6 hbz HZ HB5
      go_wp2
      go_ret
      exact ⟨rfl, HB6.out⟩
    | true =>
      have HR := Hid.intro' hr
      clear hr
      go_wp2_with (refine wpList_load27g rfl _ rfl w.heap.size s.st _ _ rfl HN2.out ?_)
      refine (first_yes s _ _ _ W2 HC2.out HW2.out HR.out).mono ?_
      rintro e W3 ⟨hb3, v1, rfl, hrl⟩
      have HB3 := Hid.intro' (below_class HB2.out hb3)
      have HN3 := Hid.intro' (HN2.out.below' hb3)
      have HC3 := Hid.intro' (HC2.out.below' hb3)
      have HW3 := Hid.intro' (HW2.out.below' hb3)
      have HL3 := Hid.intro' hrl
      obtain ⟨ap, kp, rfl, _, _⟩ := hrl.form
      clear hb3 hrl HB2 HN2 HC2 HW2
      go_wp2_with (refine wpList_load27g rfl _ rfl w.heap.size s.st _ _ rfl HN3.out ?_)
      have hrr := rsnapRight_any s _ _ _ W3 HC3.out HW3.out
      rw [HR.out] at hrr
      refine hrr.mono ?_
      clear hrr
      rintro e W4 ⟨rfl, hb4⟩
      have HB4 := Hid.intro' (below_class HB3.out hb4)
      have HN4 := Hid.intro' (HN3.out.below' hb4)
      have HC4 := Hid.intro' (HC3.out.below' hb4)
      have HW4 := Hid.intro' (HW3.out.below' hb4)
      have HL4 := Hid.intro' (HL3.out.below' hb4)
      clear hb4 HB3 HN3 HC3 HW3 HL3
      go_wp2_with (refine wpList_load27g (by go_simp) _ rfl w.heap.size s.st _ _ rfl HN4.out ?_)
      refine (rfirst_any s _ _ _ W4 HC4.out HW4.out HR.out).mono ?_
      rintro e W5 ⟨hb5, v2, rfl, hrl2⟩
      obtain ⟨aq, kq, rfl, _, _⟩ := hrl2.form
      have HB5 := Hid.intro' (below_class HB4.out hb5)
      have HN5 := Hid.intro' (HN4.out.below' hb5)
      have HC5 := Hid.intro' (HC4.out.below' hb5)
      have HW5 := Hid.intro' (HW4.out.below' hb5)
      have hfl := fs_ll (fsb_fs (ffp_fsb HR.out))
      have HSA := Hid.intro' (psame_any _ _ _ _ (ffp s s.ws.length) W5 (HL4.out.below' hb5) hrl2 (by have := (fsb_fs (ffp_fsb HR.out)).p8; omega) (fun l hl => by have := (hfl l hl).1; omega))
      clear hb5 hrl2 hfl HB4 HN4 HC4 HW4 HL4
      go_wp2_with fail
      refine HSA.out.mono ?_
      rintro e W6 ⟨rfl, hb6⟩
      have HB6 := Hid.intro' (below_class HB5.out hb6)
      have HN6 := Hid.intro' (HN5.out.below' hb6)
      have HC6 := Hid.intro' (HC5.out.below' hb6)
      have HW6 := Hid.intro' (HW5.out.below' hb6)
      clear hb6 HSA HB5 HN5 HC5 HW5
      generalize (ffp s s.ws.length).length = n0
      by_cases h3 : 3000 < a1 ∧ a1 ≤ 1000000
      · have h3a : (3000 : Int) < a1 := h3.1
        have h3b : a1 ≤ (1000000 : Int) := h3.2
        go_wp2
        go_ret
        exact ⟨rfl, HB6.out⟩
      · by_cases hin : 1 ≤ a1 ∧ a1 ≤ 1000000
        · obtain ⟨B, rfl⟩ : ∃ B : Nat, a1 = (B : Int) := ⟨a1.toNat, by omega⟩
          have q1 : decide ((3000 : Int) < (B : Int)) = false := decide_eq_false (by omega)
          have q2 : decide ((B : Int) < 1) = false := decide_eq_false (by omega)
          have q3 : decide ((1000000 : Int) < (B : Int)) = false := decide_eq_false (by omega)
          have hB1 : 1 ≤ B := by omega
          have hB2 : B ≤ 1000000 := by omega
          go_wp2_with (refine wpList_load27g rfl _ rfl w.heap.size s.st _ _ rfl HN6.out ?_)
          refine (find_yes (s := s) (B := B) HC6.out HW6.out HR.out hB1 hB2).mono ?_
          rintro e W7 ⟨vp, vf, rfl, hrl, hoy, hb7⟩
          obtain ⟨gf, kf, rfl⟩ := hoy.some (by unfold prf; simp)
          obtain ⟨ar, kr, rfl, _, _⟩ := hrl.form
          have HBD := Hid.intro' (fnd_bd (B := B) HR.out)
          obtain ⟨x, HX⟩ : ∃ x, Hid (fnd s B = x) := ⟨_, Hid.intro' rfl⟩
          rw [HX.out] at hrl hoy HBD ⊢
          obtain ⟨M, HM⟩ : ∃ M : Nat, Hid (x.marks.length = M) := ⟨_, Hid.intro' rfl⟩
          obtain ⟨co, HCO⟩ : ∃ c : Int, Hid (x.cost = c) := ⟨_, Hid.intro' rfl⟩
          obtain ⟨en, HEN⟩ : ∃ e : Bool, Hid (x.ended = e) := ⟨_, Hid.intro' rfl⟩
          rw [HM.out, HCO.out, HEN.out]
          have hbz := (Below.refl W7.heap.size W7).alloc (Nat.le_refl _) (.cells #[.slice none 0 0, .int .i64 0, .bool false, .int .i64 0, .slice none 0 0] 48)
          have HZ := Hid.intro' (GB.new W7 (.slice none 0 0) 0 false 0 (.slice none 0 0))
          have HL7 := Hid.intro' hrl
          have HO7 := Hid.intro' hoy
          clear hrl hoy
          go_wp2_with (refine wpList_storeG rfl _ _ rfl W7.heap.size rfl rfl HZ.out ?_)
          intro W8 hk8 hg8
          have hb8 : Below W7.heap.size W7 W8 := hk8.below hbz (by simp) (fun i hi e => by omega)
          have hb68 := below_class hb7 hb8
          have HB8 := Hid.intro' (below_class HB6.out hb68)
          have HN8 := Hid.intro' (HN6.out.below' hb68)
          have HC8 := Hid.intro' (HC6.out.below' hb68)
          have HW8 := Hid.intro' (HW6.out.below' hb68)
          have HL8 := Hid.intro' (HL7.out.below' hb8)
          have HO8 := Hid.intro' (HO7.out.below' hb8)
          have HG8 := Hid.intro' hg8
          clear hk8 hg8 hb8 hb68 hb7 hbz HZ HL7 HO7 HB6 HN6 HC6 HW6
          generalize W7.heap.size = rb at HG8 ⊢
          go_wp2_with (refine wpList_load27g rfl _ rfl w.heap.size s.st _ _ rfl HN8.out ?_)
          refine (rfind_any s _ _ _ B hB2 W8 HC8.out HW8.out HR.out).mono ?_
          rintro e W9 ⟨hb9, xb, vq, vm, rfl, hxs⟩
          rw [HX.out] at hxs
          have HB9 := Hid.intro' (below_class HB8.out hb9)
          have HL9 := Hid.intro' (HL8.out.below' hb9)
          have HO9 := Hid.intro' (HO8.out.below' hb9)
          have HG9 := Hid.intro' (HG8.out.below' hb9)
          have HXS := Hid.intro' hxs
          obtain ⟨aq, kq, rfl, _, _⟩ := hxs.pl.form
          clear hb9 hxs HB8 HN8 HC8 HW8 HL8 HO8 HG8 HX
          have HDR : Hid (∀ w', Below W9.drew.heap.size W9.drew w' → Below W9.heap.size W9 w') := fun w' hw => ((Below.refl _ W9).drew).trans hw
          have R0 : Hid (∀ w', Below W9.drew.heap.size W9.drew w' → w'.cell? ⟨rb, 0, none⟩ = some (.slice ar x.plan.length kr)) := fun w' hw => (HG9.out.below' (HDR.out w' hw)).cell 0
          have R1 : Hid (∀ w', Below W9.drew.heap.size W9.drew w' → w'.cell? ⟨rb, 1, none⟩ = some (.int .i64 co)) := fun w' hw => (HG9.out.below' (HDR.out w' hw)).cell 1
          have R2' : Hid (∀ w', Below W9.drew.heap.size W9.drew w' → w'.cell? ⟨rb, 2, none⟩ = some (.bool (!en))) := fun w' hw => (HG9.out.below' (HDR.out w' hw)).cell 2
          have R3 : Hid (∀ w', Below W9.drew.heap.size W9.drew w' → w'.cell? ⟨rb, 3, none⟩ = some (.int .i64 (M : Int))) := fun w' hw => (HG9.out.below' (HDR.out w' hw)).cell 3
          have R4 : Hid (∀ w', Below W9.drew.heap.size W9.drew w' → w'.cell? ⟨rb, 4, none⟩ = some (.slice (some ⟨gf, 0, none⟩) (prf x).length kf)) := fun w' hw => (HG9.out.below' (HDR.out w' hw)).cell 4
          have X2 : Hid (∀ w', Below W9.drew.heap.size W9.drew w' → w'.cell? ⟨xb, 16, none⟩ = some (.slice aq x.plan.length kq)) := fun w' hw => (HXS.out.next (HDR.out w' hw)).cell 16
          have X3 : Hid (∀ w', Below W9.drew.heap.size W9.drew w' → w'.cell? ⟨xb, 17, none⟩ = some (.int .i64 co)) := fun w' hw => by rw [← HCO.out]; exact (HXS.out.next (HDR.out w' hw)).cell 17
          have X4 : Hid (∀ w', Below W9.drew.heap.size W9.drew w' → w'.cell? ⟨xb, 18, none⟩ = some (.int .i64 (M : Int))) := fun w' hw => by
            have h := (HXS.out.next (HDR.out w' hw)).cell 18
            have h2 : x.nodes = M := by have := HBD.out.2.2.2.1; have := HM.out; omega
            rw [← h2]; exact h
          have X5 : Hid (∀ w', Below W9.drew.heap.size W9.drew w' → w'.cell? ⟨xb, 19, none⟩ = some (.bool en)) := fun w' hw => by rw [← HEN.out]; exact (HXS.out.next (HDR.out w' hw)).cell 19
          have HSM : Hid (∀ w', Below W9.drew.heap.size W9.drew w' → Calls Try.prog 22 #[.slice ar x.plan.length kr, .slice aq x.plan.length kq] w' fun e w'' => e = .returned (.bool true) ∧ Below w'.heap.size w' w'') := fun w' hw => psame_any _ _ _ _ x.plan w' (HL9.out.below' (HDR.out w' hw)) (HXS.out.next (HDR.out w' hw)).pl (by have := HBD.out.2.1; omega) (fun l hl => by have := (HBD.out.2.2.1 l hl).1; omega)
          have HPF : Hid (∀ w', Below W9.drew.heap.size W9.drew w' → Calls Try.prog 25 #[.pointer (some ⟨xb, 0, none⟩)] w' fun e w'' => ∃ v, e = .returned v ∧ OY w'' w'.heap.size v (prf x) ∧ Below w'.heap.size w' w'') := fun w' hw => rproof_any s _ _ B xb x _ vm w' (HXS.out.next (HDR.out w' hw)) HBD.out.1.1 (by have := HBD.out.1.2; omega) HBD.out.2.1 HBD.out.2.2.1 (by have := HBD.out.2.2.2; omega)
          have HOF : Hid (∀ w', Below W9.drew.heap.size W9.drew w' → OY w' W6.heap.size (.slice (some ⟨gf, 0, none⟩) (prf x).length kf) (prf x)) := fun w' hw => HO9.out.below' (HDR.out w' hw)
          have HPN : Hid (prf x ≠ []) := by show prf x ≠ []; unfold prf; simp
          obtain ⟨S, hS⟩ : ∃ S, stv (prf x) = .string S := ⟨_, rfl⟩
          clear HL9 HO9 HG9 HXS HBD HM HCO HEN
          generalize x.plan.length = np at R0 X2 HSM ⊢
          go_wp2_with fail
          clear q1 q2 q3 h3 hin hB1 hB2
          obtain ⟨Q0, hQ0⟩ : ∃ Q0 : Exit → Act → World → Prop, Q0 = fun ex a W' => ex = Exit.normal ∧ a.tmps.getD 4 undef = .bool true ∧ a.defers = [] ∧ Below w.heap.size w W' := ⟨_, rfl⟩
          refine wp_mono (Q := Q0) ?reg ?rest
          case rest =>
            intro ex a W' h
            rw [hQ0] at h
            obtain ⟨rfl, h4, hde, hbw⟩ := h
            go_wp2
            refine bodyPost_ret (results_tmp Try.results6 a.tmps _ _) hde ⟨congrArg Ending.returned ?_, hbw⟩
            simpa using h4
          case reg =>
            refine wp_region_head 39 (by kernel_rfl) (by kernel_rfl) ?_
            simp only [List.take_succ_cons, List.take_zero]
            unfold wpCalm
            generalize hK : wpCalm Try.prog _ _ _ _ = K
            unfold Oper.calm
            go_simp
            refine ⟨_, fun _ _ => rfl, ?_⟩
            subst hK
            unfold wpCalm
            generalize hK : wpCalm Try.prog _ _ _ _ = K
            unfold Oper.calm
            go_simp
            refine ⟨_, fun _ _ => rfl, ?_⟩
            subst hK
            unfold wpCalm
            generalize hK : wpCalm Try.prog _ _ _ _ = K
            unfold Oper.calm
            go_simp
            refine ⟨_, fun _ _ => rfl, ?_⟩
            subst hK
            unfold wpCalm
            generalize hK : wpCalm Try.prog _ _ _ _ = K
            unfold Oper.calm
            go_simp
            refine ⟨_, fun _ _ => rfl, ?_⟩
            subst hK
            unfold wpCalm
            generalize hK : wpCalm Try.prog _ _ _ _ = K
            rw [if_pos (by go_simp)]
            refine calm_cellP _ rb 0 rfl rfl R0.out ?_
            go_simp
            subst hK
            unfold wpCalm
            generalize hK : wpCalm Try.prog _ _ _ _ = K
            unfold Oper.calm
            go_simp
            refine ⟨_, fun _ _ => rfl, ?_⟩
            subst hK
            unfold wpCalm
            generalize hK : wpCalm Try.prog _ _ _ _ = K
            unfold Oper.calm
            go_simp
            refine ⟨_, fun _ _ => rfl, ?_⟩
            subst hK
            unfold wpCalm
            generalize hK : wpCalm Try.prog _ _ _ _ = K
            unfold Oper.calm
            go_simp
            refine ⟨_, fun _ _ => rfl, ?_⟩
            subst hK
            unfold wpCalm
            generalize hK : wpCalm Try.prog _ _ _ _ = K
            rw [if_pos (by go_simp)]
            refine calm_cellP _ xb 16 rfl rfl X2.out ?_
            go_simp
            subst hK
            unfold wpCalm
            generalize hK : wpCalm Try.prog _ _ _ _ = K
            unfold Oper.calm
            go_simp
            refine ⟨_, fun w' hw => HSM.out w' hw, ?_⟩
            subst hK
            unfold wpCalm
            generalize hK : wpCalm Try.prog _ _ _ _ = K
            unfold Oper.calm
            go_simp
            refine ⟨_, fun _ _ => rfl, ?_⟩
            subst hK
            unfold wpCalm
            generalize hK : wpCalm Try.prog _ _ _ _ = K
            unfold Oper.calm
            go_simp
            refine ⟨_, fun _ _ => rfl, ?_⟩
            subst hK
            unfold wpCalm
            generalize hK : wpCalm Try.prog _ _ _ _ = K
            unfold Oper.calm
            go_simp
            refine ⟨_, fun _ _ => rfl, ?_⟩
            subst hK
            unfold wpCalm
            generalize hK : wpCalm Try.prog _ _ _ _ = K
            rw [if_pos (by go_simp)]
            refine calm_load3 _ rb 1 rfl rfl R1.out ?_
            go_simp
            subst hK
            unfold wpCalm
            generalize hK : wpCalm Try.prog _ _ _ _ = K
            unfold Oper.calm
            go_simp
            refine ⟨_, fun _ _ => rfl, ?_⟩
            subst hK
            unfold wpCalm
            generalize hK : wpCalm Try.prog _ _ _ _ = K
            unfold Oper.calm
            go_simp
            refine ⟨_, fun _ _ => rfl, ?_⟩
            subst hK
            unfold wpCalm
            generalize hK : wpCalm Try.prog _ _ _ _ = K
            unfold Oper.calm
            go_simp
            refine ⟨_, fun _ _ => rfl, ?_⟩
            subst hK
            unfold wpCalm
            generalize hK : wpCalm Try.prog _ _ _ _ = K
            rw [if_pos (by go_simp)]
            refine calm_load3 _ xb 17 rfl rfl X3.out ?_
            go_simp
            subst hK
            unfold wpCalm
            generalize hK : wpCalm Try.prog _ _ _ _ = K
            unfold Oper.calm
            go_simp
            refine ⟨_, fun _ _ => rfl, ?_⟩
            subst hK
            unfold wpCalm
            generalize hK : wpCalm Try.prog _ _ _ _ = K
            unfold Oper.calm
            go_simp
            refine ⟨_, fun _ _ => rfl, ?_⟩
            subst hK
            unfold wpCalm
            generalize hK : wpCalm Try.prog _ _ _ _ = K
            unfold Oper.calm
            go_simp
            refine ⟨_, fun _ _ => rfl, ?_⟩
            subst hK
            unfold wpCalm
            generalize hK : wpCalm Try.prog _ _ _ _ = K
            unfold Oper.calm
            go_simp
            refine ⟨_, fun _ _ => rfl, ?_⟩
            subst hK
            unfold wpCalm
            generalize hK : wpCalm Try.prog _ _ _ _ = K
            rw [if_pos (by go_simp)]
            refine calm_cell4 _ rb 2 rfl rfl R2'.out ?_
            go_simp
            subst hK
            unfold wpCalm
            generalize hK : wpCalm Try.prog _ _ _ _ = K
            unfold Oper.calm
            go_simp
            refine ⟨_, fun _ _ => rfl, ?_⟩
            subst hK
            unfold wpCalm
            generalize hK : wpCalm Try.prog _ _ _ _ = K
            unfold Oper.calm
            go_simp
            refine ⟨_, fun _ _ => rfl, ?_⟩
            subst hK
            unfold wpCalm
            generalize hK : wpCalm Try.prog _ _ _ _ = K
            unfold Oper.calm
            go_simp
            refine ⟨_, fun _ _ => rfl, ?_⟩
            subst hK
            unfold wpCalm
            generalize hK : wpCalm Try.prog _ _ _ _ = K
            rw [if_pos (by go_simp)]
            refine calm_cell4 _ xb 19 rfl rfl X5.out ?_
            go_simp
            subst hK
            unfold wpCalm
            generalize hK : wpCalm Try.prog _ _ _ _ = K
            unfold Oper.calm
            go_simp
            refine ⟨_, fun _ _ => rfl, ?_⟩
            subst hK
            unfold wpCalm
            generalize hK : wpCalm Try.prog _ _ _ _ = K
            unfold Oper.calm
            go_simp
            refine ⟨_, fun _ _ => rfl, ?_⟩
            subst hK
            unfold wpCalm
            generalize hK : wpCalm Try.prog _ _ _ _ = K
            unfold Oper.calm
            go_simp
            refine ⟨_, fun _ _ => rfl, ?_⟩
            subst hK
            unfold wpCalm
            generalize hK : wpCalm Try.prog _ _ _ _ = K
            unfold Oper.calm
            go_simp
            refine ⟨_, fun _ _ => rfl, ?_⟩
            subst hK
            unfold wpCalm
            generalize hK : wpCalm Try.prog _ _ _ _ = K
            unfold Oper.calm
            go_simp
            refine ⟨_, fun _ _ => rfl, ?_⟩
            subst hK
            unfold wpCalm
            generalize hK : wpCalm Try.prog _ _ _ _ = K
            rw [if_pos (by go_simp)]
            refine calm_load3 _ rb 3 rfl rfl R3.out ?_
            go_simp
            subst hK
            unfold wpCalm
            generalize hK : wpCalm Try.prog _ _ _ _ = K
            unfold Oper.calm
            go_simp
            refine ⟨_, fun _ _ => rfl, ?_⟩
            subst hK
            unfold wpCalm
            generalize hK : wpCalm Try.prog _ _ _ _ = K
            unfold Oper.calm
            go_simp
            refine ⟨_, fun _ _ => rfl, ?_⟩
            subst hK
            unfold wpCalm
            generalize hK : wpCalm Try.prog _ _ _ _ = K
            unfold Oper.calm
            go_simp
            refine ⟨_, fun _ _ => rfl, ?_⟩
            subst hK
            unfold wpCalm
            generalize hK : wpCalm Try.prog _ _ _ _ = K
            rw [if_pos (by go_simp)]
            refine calm_load3 _ xb 18 rfl rfl X4.out ?_
            go_simp
            subst hK
            unfold wpCalm
            generalize hK : wpCalm Try.prog _ _ _ _ = K
            unfold Oper.calm
            go_simp
            refine ⟨_, fun _ _ => rfl, ?_⟩
            subst hK
            unfold wpCalm
            generalize hK : wpCalm Try.prog _ _ _ _ = K
            unfold Oper.calm
            go_simp
            refine ⟨_, fun _ _ => rfl, ?_⟩
            subst hK
            refine wpCalm_nil ?_
            intro WA hbA
            change wpAny Try.prog Region.Mode.any _ Q0 10 _ _ _
            refine wpAny_take (i := 39) rfl (by kernel_rfl) (by kernel_rfl) (by kernel_rfl) (fun _ _ _ h => by rw [hQ0] at h; cases h.1) (yields_move _ rfl rfl) ?_
            generalize hKK : wpAny Try.prog _ _ _ _ _ = KK
            go_simp
            subst hKK
            refine wpAny_take (i := 40) (v := .pointer (some ⟨rb, 4, none⟩)) rfl (by kernel_rfl) (by kernel_rfl) (by kernel_rfl) (fun _ _ _ h => by rw [hQ0] at h; cases h.1) ?hy ?_
            case hy => exact yields_val rfl (fun w => by go_simp)
            generalize hKK : wpAny Try.prog _ _ _ _ _ = KK
            go_simp
            subst hKK
            refine wpAny_take (i := 43) rfl (by kernel_rfl) (by kernel_rfl) (by kernel_rfl) (fun _ _ _ h => by rw [hQ0] at h; cases h.1) (yields_move _ rfl rfl) ?_
            generalize hKK : wpAny Try.prog _ _ _ _ _ = KK
            go_simp
            subst hKK
            refine wpAny_all (rs := [41, 44]) (by kernel_rfl) (by simp) (fun ii hii => ?_)
            have h7 : ii = 41 ∨ ii = 44 := by simpa using hii
            clear hii
            rcases h7 with rfl | rfl
            · refine wpOp_loadY rfl rfl _ rfl rb 4 _ rfl (R4.out WA hbA) ?_
              generalize hKK : wpAny Try.prog _ _ _ _ _ = KK
              go_simp
              subst hKK
              refine wpAny_all (rs := [42, 44]) (by kernel_rfl) (by simp) (fun ii hii => ?_)
              have h7 : ii = 42 ∨ ii = 44 := by simpa using hii
              clear hii
              rcases h7 with rfl | rfl
              · refine wpOp_convY rfl rfl _ rfl rfl (HOF.out WA hbA) ?_
                generalize hKK : wpAny Try.prog _ _ _ _ _ = KK
                go_simp
                subst hKK
                refine wpAny_seq 44 (by kernel_rfl) (by kernel_rfl) ?_
                simp only [List.drop_succ_cons, List.drop_zero]
                go_wp2_with fail
                refine (HPF.out WA hbA).mono ?_
                rintro ee WB ⟨vg, rfl, hog, hbB⟩
                obtain ⟨gg, kg, rfl⟩ := hog.some HPN.out
                have hcv := convY hog
                have HEB := Hid.intro' (below_class HB9.out (HDR.out WB (below_class hbA hbB)))
                clear hog hbB
                go_wp2_with fail
                rw [hQ0]
                exact ⟨rfl, rfl, rfl, HEB.out⟩
              · refine wpOp_call rfl rfl ?hrun (HPF.out WA hbA) ?_
                case hrun => unfold execOp; simp [resolve, invoke, go_sem]
                rintro ee WB ⟨vg, rfl, hog, hbB⟩
                refine ⟨vg, rfl, ?_⟩
                obtain ⟨gg, kg, rfl⟩ := hog.some HPN.out
                have HOG := Hid.intro' hog
                have HAB := Hid.intro' (below_class hbA hbB)
                have HEB := Hid.intro' (below_class HB9.out (HDR.out WB (below_class hbA hbB)))
                clear hog hbB
                generalize hKK : wpAny Try.prog _ _ _ _ _ = KK
                go_simp
                subst hKK
                refine wpAny_all (rs := [42, 45]) (by kernel_rfl) (by simp) (fun ii hii => ?_)
                have h7 : ii = 42 ∨ ii = 45 := by simpa using hii
                clear hii
                rcases h7 with rfl | rfl
                · refine wpOp_convY rfl rfl _ rfl rfl (HOF.out WB HAB.out) ?_
                  generalize hKK : wpAny Try.prog _ _ _ _ _ = KK
                  go_simp
                  subst hKK
                  have hcv := convY HOG.out
                  refine wpAny_seq 45 (by kernel_rfl) (by kernel_rfl) ?_
                  simp only [List.drop_succ_cons, List.drop_zero]
                  go_wp2_with fail
                  rw [hQ0]
                  exact ⟨rfl, rfl, rfl, HEB.out⟩
                · refine wpOp_convY rfl rfl _ rfl rfl HOG.out ?_
                  generalize hKK : wpAny Try.prog _ _ _ _ _ = KK
                  go_simp
                  subst hKK
                  refine wpAny_all (rs := [42]) (by kernel_rfl) (by simp) (fun ii hii => ?_)
                  have h7 : ii = 42 := by simpa using hii
                  clear hii
                  subst h7
                  refine wpOp_convY rfl rfl _ rfl rfl (HOF.out WB HAB.out) ?_
                  generalize hKK : wpAny Try.prog _ _ _ _ _ = KK
                  go_simp
                  subst hKK
                  refine wpAny_seq 46 (by kernel_rfl) (by kernel_rfl) ?_
                  simp only [List.drop_succ_cons, List.drop_zero]
                  go_wp2_with fail
                  rw [hQ0]
                  exact ⟨rfl, rfl, rfl, HEB.out⟩
            · refine wpOp_call rfl rfl ?hrun (HPF.out WA hbA) ?_
              case hrun => unfold execOp; simp [resolve, invoke, go_sem]
              rintro ee WB ⟨vg, rfl, hog, hbB⟩
              refine ⟨vg, rfl, ?_⟩
              obtain ⟨gg, kg, rfl⟩ := hog.some HPN.out
              have HOG := Hid.intro' hog
              have HAB := Hid.intro' (below_class hbA hbB)
              have HEB := Hid.intro' (below_class HB9.out (HDR.out WB (below_class hbA hbB)))
              clear hog hbB
              generalize hKK : wpAny Try.prog _ _ _ _ _ = KK
              go_simp
              subst hKK
              refine wpAny_all (rs := [41, 45]) (by kernel_rfl) (by simp) (fun ii hii => ?_)
              have h7 : ii = 41 ∨ ii = 45 := by simpa using hii
              clear hii
              rcases h7 with rfl | rfl
              · refine wpOp_loadY rfl rfl _ rfl rb 4 _ rfl (R4.out WB HAB.out) ?_
                generalize hKK : wpAny Try.prog _ _ _ _ _ = KK
                go_simp
                subst hKK
                refine wpAny_all (rs := [42, 45]) (by kernel_rfl) (by simp) (fun ii hii => ?_)
                have h7 : ii = 42 ∨ ii = 45 := by simpa using hii
                clear hii
                rcases h7 with rfl | rfl
                · refine wpOp_convY rfl rfl _ rfl rfl (HOF.out WB HAB.out) ?_
                  generalize hKK : wpAny Try.prog _ _ _ _ _ = KK
                  go_simp
                  subst hKK
                  have hcv := convY HOG.out
                  refine wpAny_seq 45 (by kernel_rfl) (by kernel_rfl) ?_
                  simp only [List.drop_succ_cons, List.drop_zero]
                  go_wp2_with fail
                  rw [hQ0]
                  exact ⟨rfl, rfl, rfl, HEB.out⟩
                · refine wpOp_convY rfl rfl _ rfl rfl HOG.out ?_
                  generalize hKK : wpAny Try.prog _ _ _ _ _ = KK
                  go_simp
                  subst hKK
                  refine wpAny_all (rs := [42]) (by kernel_rfl) (by simp) (fun ii hii => ?_)
                  have h7 : ii = 42 := by simpa using hii
                  clear hii
                  subst h7
                  refine wpOp_convY rfl rfl _ rfl rfl (HOF.out WB HAB.out) ?_
                  generalize hKK : wpAny Try.prog _ _ _ _ _ = KK
                  go_simp
                  subst hKK
                  refine wpAny_seq 46 (by kernel_rfl) (by kernel_rfl) ?_
                  simp only [List.drop_succ_cons, List.drop_zero]
                  go_wp2_with fail
                  rw [hQ0]
                  exact ⟨rfl, rfl, rfl, HEB.out⟩
              · refine wpOp_convY rfl rfl _ rfl rfl HOG.out ?_
                generalize hKK : wpAny Try.prog _ _ _ _ _ = KK
                go_simp
                subst hKK
                refine wpAny_all (rs := [41]) (by kernel_rfl) (by simp) (fun ii hii => ?_)
                have h7 : ii = 41 := by simpa using hii
                clear hii
                subst h7
                refine wpOp_loadY rfl rfl _ rfl rb 4 _ rfl (R4.out WB HAB.out) ?_
                generalize hKK : wpAny Try.prog _ _ _ _ _ = KK
                go_simp
                subst hKK
                refine wpAny_all (rs := [42]) (by kernel_rfl) (by simp) (fun ii hii => ?_)
                have h7 : ii = 42 := by simpa using hii
                clear hii
                subst h7
                refine wpOp_convY rfl rfl _ rfl rfl (HOF.out WB HAB.out) ?_
                generalize hKK : wpAny Try.prog _ _ _ _ _ = KK
                go_simp
                subst hKK
                refine wpAny_seq 46 (by kernel_rfl) (by kernel_rfl) ?_
                simp only [List.drop_succ_cons, List.drop_zero]
                go_wp2_with fail
                rw [hQ0]
                exact ⟨rfl, rfl, rfl, HEB.out⟩
        · by_cases hlo : a1 < 1
          · have q1 : decide ((3000 : Int) < a1) = false := decide_eq_false (by omega)
            go_wp2_with (refine wpList_load27g rfl _ rfl w.heap.size s.st _ _ rfl HN6.out ?_)
            refine (find_arg (s := s) (B := a1) (by omega)).mono ?_
            rintro e W7 ⟨rfl, hb7⟩
            have HB7 := Hid.intro' (below_class HB6.out hb7)
            have hbz := (Below.refl W7.heap.size W7).alloc (Nat.le_refl _) (.cells #[.slice none 0 0, .int .i64 0, .bool false, .int .i64 0, .slice none 0 0] 48)
            have HZ := Hid.intro' (GB.new W7 (.slice none 0 0) 0 false 0 (.slice none 0 0))
            clear hb7 HB6 HN6 HC6 HW6 h3 hin
            go_wp2_with (refine wpList_storeG rfl _ _ rfl W7.heap.size rfl rfl HZ.out ?_)
            intro W8 hk8 hg8
            have HB8 := Hid.intro' (below_class HB7.out (hk8.below hbz (by simp) (fun i hi e => by omega)))
            generalize W7.heap.size = rb at hg8 ⊢
            have p0 : W8.cell? ⟨rb, 0, none⟩ = some (.slice none 0 0) := hg8.cell 0
            have p4 : W8.cell? ⟨rb, 4, none⟩ = some (.slice none 0 0) := hg8.cell 4
            clear hk8 hg8 hbz HZ HB7
            go_wp2
            go_ret
            exact ⟨rfl, HB8.out⟩
          · have q1 : decide ((3000 : Int) < a1) = true := decide_eq_true (by omega)
            have q2 : decide (a1 ≤ (1000000 : Int)) = false := decide_eq_false (by omega)
            have q3 : decide ((1000000 : Int) < a1) = true := decide_eq_true (by omega)
            have q4 : decide (a1 < (1 : Int)) = false := decide_eq_false (by omega)
            go_wp2_with (refine wpList_load27g rfl _ rfl w.heap.size s.st _ _ rfl HN6.out ?_)
            refine (find_arg (s := s) (B := a1) (by omega)).mono ?_
            rintro e W7 ⟨rfl, hb7⟩
            have HB7 := Hid.intro' (below_class HB6.out hb7)
            have hbz := (Below.refl W7.heap.size W7).alloc (Nat.le_refl _) (.cells #[.slice none 0 0, .int .i64 0, .bool false, .int .i64 0, .slice none 0 0] 48)
            have HZ := Hid.intro' (GB.new W7 (.slice none 0 0) 0 false 0 (.slice none 0 0))
            clear hb7 HB6 HN6 HC6 HW6 h3 hin
            go_wp2_with (refine wpList_storeG rfl _ _ rfl W7.heap.size rfl rfl HZ.out ?_)
            intro W8 hk8 hg8
            have HB8 := Hid.intro' (below_class HB7.out (hk8.below hbz (by simp) (fun i hi e => by omega)))
            generalize W7.heap.size = rb at hg8 ⊢
            have p0 : W8.cell? ⟨rb, 0, none⟩ = some (.slice none 0 0) := hg8.cell 0
            have p4 : W8.cell? ⟨rb, 4, none⟩ = some (.slice none 0 0) := hg8.cell 4
            clear hk8 hg8 hbz HZ HB7
            go_wp2
            go_ret
            exact ⟨rfl, HB8.out⟩

end Go.Proofs.Ytigjbgecdaljkag
