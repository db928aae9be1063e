/- RouteCosts. -/
import Derived.Test.YtkcppidmbojglafRtS
import Derived.Test.YtkcppidmbojglafPlY
import Derived.Test.YtkcppidmbojglafPlJ
namespace Go.Proofs.Ytkcppidmbojglaf
open Go.RowKit

set_option maxHeartbeats 4000000 in
theorem RouteCosts_any (s : Sn) (D : Nat → Prop) (vc vw vp : Value) (p : List (List Int)) (w : World) (hc : R2 D w vc s.cs) (hw : R2 D w vw s.ws) (hp : RL D w vp p) :
    Calls Try.prog 5 #[.agg (nv s.st vc vw).toArray, vp] w fun e w' => e = .returned (.bool true) ∧ Below w.heap.size w w' := by
  have hbx := (Below.refl w.heap.size w).alloc (Nat.le_refl _) (.cells (nv s.st vc vw).toArray 27)
  have HN := Hid.intro' (NB.new w s.st vc vw)
  have HB := Hid.intro' hbx
  have HC := Hid.intro' ((hc.mono (D' := fun _ => True) fun _ _ _ _ => trivial).below' hbx)
  have HW := Hid.intro' ((hw.mono (D' := fun _ => True) fun _ _ _ _ => trivial).below' hbx)
  have HP := Hid.intro' ((hp.mono (D' := fun _ => True) fun _ _ _ _ => trivial).below' hbx)
  clear hc hw hp hbx
  go_enter Try.func5, Try.ntmps5
  go_wp2_with fail
  refine (speaks10_any _).mono ?_
  rintro e W1 ⟨rfl, hb1⟩
  have HB1 := Hid.intro' (below_class HB.out hb1)
  have HN1 := Hid.intro' (HN.out.below' hb1)
  have HC1 := Hid.intro' (HC.out.below' hb1)
  have HW1 := Hid.intro' (HW.out.below' hb1)
  have HP1 := Hid.intro' (HP.out.below' hb1)
  clear hb1 HN HB HC HW HP
  go_wp2_with (refine wpList_load27g rfl _ rfl w.heap.size s.st _ _ rfl HN1.out ?_)
  refine (great_any s _ vc vw vp p W1 HC1.out HW1.out HP1.out).mono ?_
  rintro e W2 ⟨⟨g, rfl, hb2, hs⟩⟩
  have HB2 := Hid.intro' (below_class HB1.out hb2)
  have HN2 := Hid.intro' (HN1.out.below' hb2)
  have HC2 := Hid.intro' (HC1.out.below' hb2)
  have HW2 := Hid.intro' (HW1.out.below' hb2)
  have HP2 := Hid.intro' (HP1.out.below' hb2)
  clear hb2 HN1 HB1 HC1 HW1 HP1
  cases g with
  | true =>
    clear hs
    go_wp2
    go_ret
    exact ⟨rfl, HB2.out⟩
  | false =>
    have HS := Hid.intro' (hs rfl)
    have HPL : Hid (p.length ≤ 1000) := by show p.length ≤ 1000; have := HS.out.pl; omega
    have HLL : Hid (∀ l ∈ p, l.length ≤ 1000) := fun l hl => by have := HS.out.ll l hl; omega
    clear hs HS
    cases hf : fsb s p with
    | false =>
      have HF := Hid.intro' hf
      clear hf
      go_wp2_with (refine wpList_load27g rfl _ rfl w.heap.size s.st _ _ rfl HN2.out ?_)
      refine (waits_no s _ vc vw vp p W2 HC2.out HW2.out HP2.out HF.out HPL.out HLL.out).mono ?_
      rintro e W3 ⟨v, rfl, hv, hb3⟩
      obtain ⟨av, kv, rfl, _, _⟩ := hv.form
      have HB3 := Hid.intro' (below_class HB2.out hb3)
      have HN3 := Hid.intro' (HN2.out.below' hb3)
      have HC3 := Hid.intro' (HC2.out.below' hb3)
      have HW3 := Hid.intro' (HW2.out.below' hb3)
      have HP3 := Hid.intro' (HP2.out.below' hb3)
      clear hb3 hv HN2 HB2 HC2 HW2 HP2
      go_wp2_with (refine wpList_load27g rfl _ rfl w.heap.size s.st _ _ rfl HN3.out ?_)
      refine (cost_no s _ vc vw vp p W3 HC3.out HW3.out HP3.out HF.out HPL.out HLL.out).mono ?_
      rintro e W4 ⟨rfl, hb4⟩
      have HB4 := Hid.intro' (below_class HB3.out hb4)
      have HN4 := Hid.intro' (HN3.out.below' hb4)
      have HC4 := Hid.intro' (HC3.out.below' hb4)
      have HW4 := Hid.intro' (HW3.out.below' hb4)
      have HP4 := Hid.intro' (HP3.out.below' hb4)
      clear hb4 HN3 HB3 HC3 HW3 HP3
      go_wp2_with (refine wpList_load27g rfl _ rfl w.heap.size s.st _ _ rfl HN4.out ?_)
      refine (rfeasible_any s _ vc vw vp p W4 HC4.out HW4.out HP4.out HPL.out HLL.out).mono ?_
      rintro e W5 ⟨rfl, hb5⟩
      rw [HF.out]
      have HB5 := Hid.intro' (below_class HB4.out hb5)
      clear hb5 HN4 HB4 HC4 HW4 HP4
      go_wp2
      go_ret
      exact ⟨rfl, HB5.out⟩
    | true =>
      have HF := Hid.intro' hf
      have HFS := Hid.intro' (fsb_fs hf)
      clear hf
      go_wp2_with (refine wpList_load27g rfl _ rfl w.heap.size s.st _ _ rfl HN2.out ?_)
      refine (waits_yes s _ vc vw vp p W2 HC2.out HW2.out HP2.out HF.out HPL.out HLL.out).mono ?_
      rintro e W3 ⟨v, rfl, hv, hb3⟩
      have HV3 := Hid.intro' hv
      have HB3 := Hid.intro' (below_class HB2.out hb3)
      have HN3 := Hid.intro' (HN2.out.below' hb3)
      have HC3 := Hid.intro' (HC2.out.below' hb3)
      have HW3 := Hid.intro' (HW2.out.below' hb3)
      have HP3 := Hid.intro' (HP2.out.below' hb3)
      clear hb3 hv HN2 HB2 HC2 HW2 HP2
      go_wp2_with (refine wpList_load27g rfl _ rfl w.heap.size s.st _ _ rfl HN3.out ?_)
      refine (cost_yes s _ vc vw vp p W3 HC3.out HW3.out HP3.out HF.out HPL.out HLL.out).mono ?_
      rintro e W4 ⟨rfl, hb4⟩
      have HV4 := Hid.intro' (HV3.out.below' hb4)
      have HB4 := Hid.intro' (below_class HB3.out hb4)
      have HN4 := Hid.intro' (HN3.out.below' hb4)
      have HC4 := Hid.intro' (HC3.out.below' hb4)
      have HW4 := Hid.intro' (HW3.out.below' hb4)
      have HP4 := Hid.intro' (HP3.out.below' hb4)
      clear hb4 HV3 HN3 HB3 HC3 HW3 HP3
      have HCB := Hid.intro' (HFS.out.cost HLL.out)
      have HCE : Hid (∀ W, R2 (fun _ => True) W vc s.cs → R2 (fun _ => True) W vw s.ws → RL (fun _ => True) W vp p → Calls Try.prog 22 #[.agg (nv s.st vc vw).toArray, vp] W fun e w' => e = .returned (.int .i64 (RM.cst s.st s.ws s.cs p)) ∧ Below W.heap.size W w') := fun W h1 h2 h3 => rcost_any s _ vc vw vp p W h1 h2 h3 HF.out HLL.out
      generalize RM.cst s.st s.ws s.cs p = cs at HCB HCE ⊢
      have hcz : cs < 1099511627776 := by have := HCB.out; omega
      go_wp2_with (refine wpList_load27g rfl _ rfl w.heap.size s.st _ _ rfl HN4.out ?_)
      refine (rfeasible_any s _ vc vw vp p W4 HC4.out HW4.out HP4.out HPL.out HLL.out).mono ?_
      rintro e W5 ⟨rfl, hb5⟩
      rw [HF.out]
      have HV5 := Hid.intro' (HV4.out.below' hb5)
      have HB5 := Hid.intro' (below_class HB4.out hb5)
      have HN5 := Hid.intro' (HN4.out.below' hb5)
      have HC5 := Hid.intro' (HC4.out.below' hb5)
      have HW5 := Hid.intro' (HW4.out.below' hb5)
      have HP5 := Hid.intro' (HP4.out.below' hb5)
      clear hb5 HV4 HN4 HB4 HC4 HW4 HP4
      go_wp2_with (refine wpList_load27g (by go_simp) _ rfl w.heap.size s.st _ _ rfl HN5.out ?_)
      refine (rwaits_any s _ vc vw vp p W5 HC5.out HW5.out HP5.out HF.out HLL.out).mono ?_
      rintro e W6 ⟨u, rfl, hu, hb6⟩
      have HU6 := Hid.intro' (hu.ri (D := fun _ => True) fun _ _ => trivial)
      have HV6 := Hid.intro' (HV5.out.below' hb6)
      have HB6 := Hid.intro' (below_class HB5.out hb6)
      have HN6 := Hid.intro' (HN5.out.below' hb6)
      have HC6 := Hid.intro' (HC5.out.below' hb6)
      have HW6 := Hid.intro' (HW5.out.below' hb6)
      have HP6 := Hid.intro' (HP5.out.below' hb6)
      clear hb6 hu HV5 HN5 HB5 HC5 HW5 HP5
      go_wp2_with fail
      refine (rsame_any _ _ v u _ _ W6 HV6.out HU6.out (by rw [RM.wts_length]; have := HFS.out.wl; omega)).mono ?_
      rintro e W7 ⟨rfl, hb7⟩
      rw [show decide (RM.wts s.st s.ws s.cs p = RM.wts s.st s.ws s.cs p) = true by simp]
      have HB7 := Hid.intro' (below_class HB6.out hb7)
      have HN7 := Hid.intro' (HN6.out.below' hb7)
      have HC7 := Hid.intro' (HC6.out.below' hb7)
      have HW7 := Hid.intro' (HW6.out.below' hb7)
      have HP7 := Hid.intro' (HP6.out.below' hb7)
      clear hb7 HV6 HU6 HN6 HB6 HC6 HW6 HP6
      go_wp2_with (refine wpList_load27g (by go_simp) _ rfl w.heap.size s.st _ _ rfl HN7.out ?_)
      refine (HCE.out W7 HC7.out HW7.out HP7.out).mono ?_
      rintro e W8 ⟨rfl, hb8⟩
      have HB8 := Hid.intro' (below_class HB7.out hb8)
      clear hb8 HN7 HC7 HW7 HP7 HCE HCB
      go_wp2
      go_ret
      exact ⟨rfl, HB8.out⟩

end Go.Proofs.Ytkcppidmbojglaf
