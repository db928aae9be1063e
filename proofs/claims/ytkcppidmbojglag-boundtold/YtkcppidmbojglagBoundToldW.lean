/- BoundTold. -/
import Derived.Test.YtkcppidmbojglagBdD
import Derived.Test.YtkcppidmbojglagBdS
import Derived.Test.YtkcppidmbojglagPlY
namespace Go.Proofs.Ytkcppidmbojglag
open Go.RowKit

theorem bgn_car {s : Sn} {car : Int} {p : List (List Int)} {st : List Bool} (h : bgn s car p = some st) : ∃ k : Nat, car = (k : Int) := by
  unfold bgn at h
  split at h
  case isFalse => cases h
  case isTrue hh =>
    simp only [Bool.and_eq_true, decide_eq_true_eq] at hh
    exact ⟨car.toNat, by have := hh.1.1.2; omega⟩

set_option maxRecDepth 100000 in
set_option maxHeartbeats 4000000 in
theorem BoundTold_any (s : Sn) (D : Nat → Prop) (vc vw vp vq : Value) (car : Int) (p q : List (List Int)) (w : World) (hc : R2 D w vc s.cs) (hw : R2 D w vw s.ws) (hp : RL D w vp p) (hq : RL D w vq q) :
    Calls Try.prog 3 #[.agg (nv s.st vc vw).toArray, .int .i64 car, vp, vq] w fun e w' => e = .returned (.bool true) ∧ Below w.heap.size w w' := by
  have hbx := (Below.refl w.heap.size w).alloc (Nat.le_refl _) (.cells (nv s.st vc vw).toArray 27)
  have HN := Hid.intro' (NB.new w s.st vc vw)
  have HB := Hid.intro' hbx
  have HC := Hid.intro' ((hc.mono (D' := fun _ => True) fun _ _ _ _ => trivial).below' hbx)
  have HW := Hid.intro' ((hw.mono (D' := fun _ => True) fun _ _ _ _ => trivial).below' hbx)
  have HP := Hid.intro' ((hp.mono (D' := fun _ => True) fun _ _ _ _ => trivial).below' hbx)
  have HQ := Hid.intro' ((hq.mono (D' := fun _ => True) fun _ _ _ _ => trivial).below' hbx)
  clear hc hw hp hq hbx
  go_enter Try.func3, Try.ntmps3
  go_wp2_with fail
  refine (speaks11_any _).mono ?_
  rintro e W1 ⟨rfl, hb1⟩
  have HB1 := Hid.intro' (below_class HB.out hb1)
  have HN1 := Hid.intro' (HN.out.below' hb1)
  have HC1 := Hid.intro' (HC.out.below' hb1)
  have HW1 := Hid.intro' (HW.out.below' hb1)
  have HP1 := Hid.intro' (HP.out.below' hb1)
  have HQ1 := Hid.intro' (HQ.out.below' hb1)
  clear hb1 HN HB HC HW HP HQ
  go_wp2_with (refine wpList_load27g rfl _ rfl w.heap.size s.st _ _ rfl HN1.out ?_)
  refine (great_any s _ vc vw vp p W1 HC1.out HW1.out HP1.out).mono ?_
  rintro e W2 ⟨⟨g, rfl, hb2, hs⟩⟩
  have HB2 := Hid.intro' (below_class HB1.out hb2)
  have HN2 := Hid.intro' (HN1.out.below' hb2)
  have HC2 := Hid.intro' (HC1.out.below' hb2)
  have HW2 := Hid.intro' (HW1.out.below' hb2)
  have HP2 := Hid.intro' (HP1.out.below' hb2)
  have HQ2 := Hid.intro' (HQ1.out.below' hb2)
  clear hb2 HN1 HB1 HC1 HW1 HP1 HQ1
  cases g with
  | true =>
    clear hs
    go_wp2
    go_ret
    exact ⟨rfl, HB2.out⟩
  | false =>
    have HS := Hid.intro' (hs rfl)
    have HPL : Hid (p.length ≤ 1000) := by show p.length ≤ 1000; have := HS.out.pl; omega
    have HLL : Hid (∀ l ∈ p, l.length ≤ 1000) := fun l hl => by have := HS.out.ll l hl; omega
    clear hs HS
    go_wp2_with (refine wpList_load27g (by go_simp) _ rfl w.heap.size s.st _ _ rfl HN2.out ?_)
    refine (great_any s _ vc vw vq q W2 HC2.out HW2.out HQ2.out).mono ?_
    rintro e W3 ⟨⟨g, rfl, hb3, hs⟩⟩
    have HB3 := Hid.intro' (below_class HB2.out hb3)
    have HN3 := Hid.intro' (HN2.out.below' hb3)
    have HC3 := Hid.intro' (HC2.out.below' hb3)
    have HW3 := Hid.intro' (HW2.out.below' hb3)
    have HP3 := Hid.intro' (HP2.out.below' hb3)
    have HQ3 := Hid.intro' (HQ2.out.below' hb3)
    clear hb3 HN2 HB2 HC2 HW2 HP2 HQ2
    cases g with
    | true =>
      clear hs
      go_wp2
      go_ret
      exact ⟨rfl, HB3.out⟩
    | false =>
      have HS := Hid.intro' (hs rfl)
      have HQL : Hid (q.length ≤ 1000) := by show q.length ≤ 1000; have := HS.out.pl; omega
      have HLQ : Hid (∀ l ∈ q, l.length ≤ 1000) := fun l hl => by have := HS.out.ll l hl; omega
      clear hs HS
      go_wp2_with fail
      refine (begins_any _ vq vp car q p W3 HQ3.out HP3.out HQL.out HLQ.out HPL.out HLL.out).mono ?_
      rintro e W4 ⟨rfl, hb4⟩
      have HB4 := Hid.intro' (below_class HB3.out hb4)
      have HN4 := Hid.intro' (HN3.out.below' hb4)
      have HC4 := Hid.intro' (HC3.out.below' hb4)
      have HW4 := Hid.intro' (HW3.out.below' hb4)
      have HP4 := Hid.intro' (HP3.out.below' hb4)
      have HQ4 := Hid.intro' (HQ3.out.below' hb4)
      clear hb4 HN3 HB3 HC3 HW3 HP3 HQ3
      go_wp2_with fail
      refine (rbegins_any _ vq vp car q p W4 HQ4.out HP4.out HQL.out HLL.out).mono ?_
      rintro e W5 ⟨rfl, hb5⟩
      have HB5 := Hid.intro' (below_class HB4.out hb5)
      have HN5 := Hid.intro' (HN4.out.below' hb5)
      have HC5 := Hid.intro' (HC4.out.below' hb5)
      have HW5 := Hid.intro' (HW4.out.below' hb5)
      have HP5 := Hid.intro' (HP4.out.below' hb5)
      clear hb5 HN4 HB4 HC4 HW4 HP4 HQ4
      generalize bgs q car p = bq
      cases hbg : bgn s car p with
      | none =>
        have HBG := Hid.intro' hbg
        clear hbg
        go_wp2_with (refine wpList_load27g rfl _ rfl w.heap.size s.st _ _ rfl HN5.out ?_)
        refine (least_no s _ vc vw vp car p W5 HC5.out HW5.out HP5.out HBG.out HPL.out HLL.out).mono ?_
        rintro e W6 ⟨rfl, hb6⟩
        have HB6 := Hid.intro' (below_class HB5.out hb6)
        have HN6 := Hid.intro' (HN5.out.below' hb6)
        have HC6 := Hid.intro' (HC5.out.below' hb6)
        have HW6 := Hid.intro' (HW5.out.below' hb6)
        have HP6 := Hid.intro' (HP5.out.below' hb6)
        clear hb6 HN5 HB5 HC5 HW5 HP5
        go_wp2_with (refine wpList_load27g rfl _ rfl w.heap.size s.st _ _ rfl HN6.out ?_)
        refine (rleft_any s _ vc vw vp car p W6 HC6.out HW6.out HP6.out HPL.out HLL.out).mono ?_
        rintro e W7 ⟨hb7, ho7⟩
        have HB7 := Hid.intro' (below_class HB6.out hb7)
        rcases ho7 with ⟨st, v, h1, _⟩ | ⟨_, rfl⟩
        · rw [HBG.out] at h1; cases h1
        clear hb7 HN6 HB6 HC6 HW6 HP6
        go_wp2
        go_ret
        exact ⟨rfl, HB7.out⟩
      | some st =>
        obtain ⟨k, rfl⟩ := bgn_car hbg
        have HBG := Hid.intro' hbg
        clear hbg
        obtain ⟨T, HT⟩ : ∃ T, Hid (lsv s k p st = T) := ⟨_, Hid.intro' rfl⟩
        go_wp2_with (refine wpList_load27g rfl _ rfl w.heap.size s.st _ _ rfl HN5.out ?_)
        refine (least_yes s _ vc vw vp k p st W5 HC5.out HW5.out HP5.out HBG.out HPL.out HLL.out).mono ?_
        rintro e W6 ⟨rfl, hb6⟩
        rw [HT.out]
        have HB6 := Hid.intro' (below_class HB5.out hb6)
        have HN6 := Hid.intro' (HN5.out.below' hb6)
        have HC6 := Hid.intro' (HC5.out.below' hb6)
        have HW6 := Hid.intro' (HW5.out.below' hb6)
        have HP6 := Hid.intro' (HP5.out.below' hb6)
        clear hb6 HN5 HB5 HC5 HW5 HP5
        go_wp2_with (refine wpList_load27g rfl _ rfl w.heap.size s.st _ _ rfl HN6.out ?_)
        refine (rleft_any s _ vc vw vp (k : Int) p W6 HC6.out HW6.out HP6.out HPL.out HLL.out).mono ?_
        rintro e W7 ⟨hb7, ho7⟩
        obtain ⟨v, rfl, hv⟩ : ∃ v, e = .returned (.tuple #[v, .bool true]) ∧ OI W7 W6.heap.size v (lfk st s.ws.length) := by
          rcases ho7 with ⟨st', v, h1, h2, h3⟩ | ⟨h1, _⟩
          · rw [HBG.out] at h1; cases h1; exact ⟨v, h2, h3⟩
          · rw [HBG.out] at h1; cases h1
        have HV7 := Hid.intro' (hv.ri (D := fun _ => True) fun _ _ => trivial)
        have HB7 := Hid.intro' (below_class HB6.out hb7)
        have HN7 := Hid.intro' (HN6.out.below' hb7)
        have HC7 := Hid.intro' (HC6.out.below' hb7)
        have HW7 := Hid.intro' (HW6.out.below' hb7)
        have HP7 := Hid.intro' (HP6.out.below' hb7)
        clear hb7 hv ho7 HN6 HB6 HC6 HW6 HP6
        go_wp2_with (refine wpList_load27g (by go_simp) _ rfl w.heap.size s.st _ _ rfl HN7.out ?_)
        refine (rleast_any s _ vc vw vp v k p st W7 HC7.out HW7.out HP7.out HV7.out HBG.out HLL.out T HT).mono ?_
        rintro e W8 ⟨rfl, hb8⟩
        have HB8 := Hid.intro' (below_class HB7.out hb8)
        clear hb8 HN7 HC7 HW7 HP7 HV7
        go_wp2
        go_ret
        exact ⟨rfl, HB8.out⟩

end Go.Proofs.Ytkcppidmbojglag
