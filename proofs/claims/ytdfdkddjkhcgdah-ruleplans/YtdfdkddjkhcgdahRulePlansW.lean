/- RulePlans. -/
import Derived.Test.YtdfdkddjkhcgdahRuS
import Derived.Test.YtdfdkddjkhcgdahPk7
import Derived.Test.YtdfdkddjkhcgdahPk9
namespace Go.Proofs.Ytdfdkddjkhcgdah
open Go.RowKit Go.Shelf

set_option maxRecDepth 100000 in
set_option maxHeartbeats 4000000 in
theorem RulePlans_any (s : Sn) (D : Nat → Prop) (vc vw : Value) (w : World) (hc : R2 D w vc s.cs) (hw : R2 D w vw s.ws) :
    Calls Try.prog 8 #[.agg (nv s.st vc vw).toArray] w fun e w' => e = .returned (.bool true) ∧ Below w.heap.size w w' := by
  have hbx := (Below.refl w.heap.size w).alloc (Nat.le_refl _) (.cells (nv s.st vc vw).toArray 27)
  have HN := Hid.intro' (NB.new w s.st vc vw)
  have HB := Hid.intro' hbx
  have HC := Hid.intro' ((hc.mono (D' := fun _ => True) fun _ _ _ _ => trivial).below' hbx)
  have HW := Hid.intro' ((hw.mono (D' := fun _ => True) fun _ _ _ _ => trivial).below' hbx)
  obtain ⟨ac, kc, rfl, _, _⟩ := hc.form
  obtain ⟨aw, kw, rfl, _, _⟩ := hw.form
  clear hc hw hbx
  go_enter Try.func8, Try.ntmps8
  go_wp2_with fail
  refine (speaks14_any _).mono ?_
  rintro e W1 ⟨rfl, hb1⟩
  have HB1 := Hid.intro' (below_class HB.out hb1)
  have HN1 := Hid.intro' (HN.out.below' hb1)
  have HC1 := Hid.intro' (HC.out.below' hb1)
  have HW1 := Hid.intro' (HW.out.below' hb1)
  clear hb1 HN HB HC HW
  go_wp2_with (refine wpList_load27g rfl _ rfl w.heap.size s.st _ _ rfl HN1.out ?_)
  refine (great_any s _ _ _ _ [] W1 HC1.out HW1.out (RL.nil _ _)).mono ?_
  rintro e W2 ⟨⟨g, rfl, hb2, hs⟩⟩
  have HB2 := Hid.intro' (below_class HB1.out hb2)
  have HN2 := Hid.intro' (HN1.out.below' hb2)
  have HC2 := Hid.intro' (HC1.out.below' hb2)
  have HW2 := Hid.intro' (HW1.out.below' hb2)
  clear hb2 hs HN1 HB1 HC1 HW1
  cases g with
  | true =>
    go_wp2
    go_ret
    exact ⟨rfl, HB2.out⟩
  | false =>
    cases hr : rgt s with
    | false =>
      have HP := Hid.intro' (ruleplan_no HC2.out HW2.out hr)
      go_wp2_with (refine wpList_load27g rfl _ rfl w.heap.size s.st _ _ rfl HN2.out ?_)
      refine HP.out.mono ?_
      rintro e W3 ⟨rfl, hb3⟩
      have HB3 := Hid.intro' (below_class HB2.out hb3)
      have HN3 := Hid.intro' (HN2.out.below' hb3)
      have hrr := rsnapRight_any s _ _ _ W3 (HC2.out.below' hb3) (HW2.out.below' hb3)
      rw [hr] at hrr
      have HRR := Hid.intro' hrr
      clear hrr hb3 HP HB2 HN2 HC2 HW2 hr
      go_wp2_with (refine wpList_load27g rfl _ rfl w.heap.size s.st _ _ rfl HN3.out ?_)
      refine HRR.out.mono ?_
      rintro e W4 ⟨rfl, hb4⟩
      have HB4 := Hid.intro' (below_class HB3.out hb4)
      clear hb4 HB3 HN3 HRR
      go_wp2
      go_ret
      exact ⟨rfl, HB4.out⟩
    | true =>
      have HR := Hid.intro' hr
      have HP := Hid.intro' (ruleplan_yes HC2.out HW2.out hr)
      go_wp2_with (refine wpList_load27g rfl _ rfl w.heap.size s.st _ _ rfl HN2.out ?_)
      refine HP.out.mono ?_
      rintro e W3 ⟨v, rfl, hrl, hb3⟩
      have HB3 := Hid.intro' (below_class HB2.out hb3)
      have HN3 := Hid.intro' (HN2.out.below' hb3)
      have HC3 := Hid.intro' (HC2.out.below' hb3)
      have HW3 := Hid.intro' (HW2.out.below' hb3)
      have HL3 := Hid.intro' hrl
      have hrr := rsnapRight_any s _ _ _ W3 HC3.out HW3.out
      rw [hr] at hrr
      have HRR := Hid.intro' hrr
      obtain ⟨av, kv, rfl, _, _⟩ := hrl.form
      clear hrr hrl hb3 HP HB2 HN2 HC2 HW2 hr
      rw [rpl_length]
      have HBD := Hid.intro' (rpl_bd HR.out)
      have HFE := Hid.intro' (rpl_fsb HR.out)
      rw [rpl_length] at HL3
      obtain ⟨p, HPP⟩ : ∃ p, Hid (rpl s s.cs.length = p) := ⟨_, Hid.intro' rfl⟩
      have HPL : Hid (p.length = s.cs.length) := by show _ = _; rw [← HPP.out, rpl_length]
      rw [HPP.out] at HL3 HBD HFE
      go_wp2_with (refine wpList_load27g rfl _ rfl w.heap.size s.st _ _ rfl HN3.out ?_)
      refine HRR.out.mono ?_
      rintro e W4 ⟨rfl, hb4⟩
      have HB4 := Hid.intro' (below_class HB3.out hb4)
      have HN4 := Hid.intro' (HN3.out.below' hb4)
      have HC4 := Hid.intro' (HC3.out.below' hb4)
      have HW4 := Hid.intro' (HW3.out.below' hb4)
      have HL4 := Hid.intro' (HL3.out.below' hb4)
      clear hb4 HRR HB3 HN3 HC3 HW3 HL3
      have HRP := Hid.intro' (rplan14_any s _ _ _ W4 HC4.out HW4.out HR.out)
      go_wp2_with (refine wpList_load27g (by go_simp) _ rfl w.heap.size s.st _ _ rfl HN4.out ?_)
      refine HRP.out.mono ?_
      rintro e W5 ⟨hb5, vq, rfl, hrq⟩
      rw [HPP.out] at hrq
      have HSM := Hid.intro' (psame_any _ _ _ _ p W5 (HL4.out.below' hb5) hrq (by have := HBD.out.1; omega) (fun l hl => by have := HBD.out.2 l hl; omega))
      have HB5 := Hid.intro' (below_class HB4.out hb5)
      have HN5 := Hid.intro' (HN4.out.below' hb5)
      have HC5 := Hid.intro' (HC4.out.below' hb5)
      have HW5 := Hid.intro' (HW4.out.below' hb5)
      have HL5 := Hid.intro' (HL4.out.below' hb5)
      obtain ⟨aq, kq, rfl, _, _⟩ := hrq.form
      rw [HPL.out] at HSM ⊢
      clear hb5 hrq HRP HB4 HN4 HC4 HW4 HL4
      go_wp2_with fail
      refine HSM.out.mono ?_
      rintro e W6 ⟨rfl, hb6⟩
      have HB6 := Hid.intro' (below_class HB5.out hb6)
      have HN6 := Hid.intro' (HN5.out.below' hb6)
      have hfe := rfeasible_any s (fun _ => True) _ _ (.slice av s.cs.length kv) p W6 (HC5.out.below' hb6) (HW5.out.below' hb6) (HL5.out.below' hb6) (by have := HBD.out.1; omega) HBD.out.2
      rw [HFE.out] at hfe
      have HFC := Hid.intro' hfe
      clear hb6 hfe HSM HB5 HN5 HC5 HW5 HL5
      go_wp2_with (refine wpList_load27g (by go_simp) _ rfl w.heap.size s.st _ _ rfl HN6.out ?_)
      refine HFC.out.mono ?_
      rintro e W7 ⟨rfl, hb7⟩
      have HB7 := Hid.intro' (below_class HB6.out hb7)
      clear hb7 HFC HB6 HN6
      go_wp2
      go_ret
      exact ⟨rfl, HB7.out⟩

end Go.Proofs.Ytdfdkddjkhcgdah
