/- PlanTold. -/
import Derived.Test.YtdpfgjipjjkcgaePlZ
import Derived.Test.YtdpfgjipjjkcgaePlR
import Derived.Test.YtdpfgjipjjkcgaePlJ
import Derived.Test.YtdpfgjipjjkcgaePlC
namespace Go.Proofs.Ytdpfgjipjjkcgae
open Go.RowKit

set_option maxHeartbeats 4000000 in
theorem PlanTold_any (s : Sn) (D : Nat → Prop) (vc vw vp : Value) (p : List (List Int)) (w : World) (hc : R2 D w vc s.cs) (hw : R2 D w vw s.ws) (hp : RL D w vp p) :
    Calls Try.prog 8 #[.agg (nv s.st vc vw).toArray, vp] w fun e w' => e = .returned (.bool true) ∧ Below w.heap.size w w' := by
  have hbx := (Below.refl w.heap.size w).alloc (Nat.le_refl _) (.cells (nv s.st vc vw).toArray 63)
  have HN := Hid.intro' (NB.new w s.st vc vw)
  have HB := Hid.intro' hbx
  have HC := Hid.intro' (hc.below' hbx)
  have HW := Hid.intro' (hw.below' hbx)
  have HP := Hid.intro' (hp.below' hbx)
  clear hc hw hp hbx
  go_enter Try.func8, Try.ntmps8
  go_wp2_with fail
  refine (speaks_any _).mono ?_
  rintro e W1 ⟨rfl, hb1⟩
  have HB1 := Hid.intro' (below_class HB.out hb1)
  have HN1 := Hid.intro' (HN.out.below' hb1)
  have HC1 := Hid.intro' (HC.out.below' hb1)
  have HW1 := Hid.intro' (HW.out.below' hb1)
  have HP1 := Hid.intro' (HP.out.below' hb1)
  clear hb1 HN HB HC HW HP
  go_wp2_with (refine wpList_load27g rfl _ rfl w.heap.size s.st _ _ rfl HN1.out ?_)
  refine (great_any s D vc vw vp p W1 HC1.out HW1.out HP1.out).mono ?_
  rintro e W2 ⟨⟨g, rfl, hb2, hs⟩⟩
  have HB2 := Hid.intro' (below_class HB1.out hb2)
  have HN2 := Hid.intro' (HN1.out.below' hb2)
  have HC2 := Hid.intro' (HC1.out.below' hb2)
  have HW2 := Hid.intro' (HW1.out.below' hb2)
  have HP2 := Hid.intro' (HP1.out.below' hb2)
  clear hb2 HN1 HB1 HC1 HW1 HP1
  cases g with
  | true =>
    clear hs
    go_wp2
    go_ret
    exact ⟨rfl, HB2.out⟩
  | false =>
    have HS := Hid.intro' (hs rfl)
    have HNB : Hid (∀ w', Below W2.heap.size W2 w' → NB w' w.heap.size s.st vc vw) := fun w' hw => HN2.out.below' hw
    have H1 : Hid (∀ w', Below W2.heap.size W2 w' → Calls Try.prog 25 #[.agg (nv s.st vc vw).toArray] w' fun e w'' => e = .returned (.bool (rgt s)) ∧ Below w'.heap.size w' w'') := fun w' hw => snapRight_any s D vc vw w' (HC2.out.below' hw) (HW2.out.below' hw)
    have H2 : Hid (∀ w', Below W2.heap.size W2 w' → Calls Try.prog 26 #[.agg (nv s.st vc vw).toArray] w' fun e w'' => e = .returned (.bool (rgt s)) ∧ Below w'.heap.size w' w'') := fun w' hw => rsnapRight_any s D vc vw w' (HC2.out.below' hw) (HW2.out.below' hw)
    have H3 : Hid (∀ w', Below W2.heap.size W2 w' → Calls Try.prog 27 #[.agg (nv s.st vc vw).toArray, vp] w' fun e w'' => e = .returned (.bool (fsb s p)) ∧ Below w'.heap.size w' w'') := fun w' hw => feasible_any s D vc vw vp p w' (HC2.out.below' hw) (HW2.out.below' hw) (HP2.out.below' hw) (by have := HS.out.pl; omega) (fun l hl => by have := HS.out.ll l hl; omega)
    have H4 : Hid (∀ w', Below W2.heap.size W2 w' → Calls Try.prog 28 #[.agg (nv s.st vc vw).toArray, vp] w' fun e w'' => e = .returned (.bool (fsb s p)) ∧ Below w'.heap.size w' w'') := fun w' hw => rfeasible_any s D vc vw vp p w' (HC2.out.below' hw) (HW2.out.below' hw) (HP2.out.below' hw) (by have := HS.out.pl; omega) (fun l hl => by have := HS.out.ll l hl; omega)
    clear hs HN2 HC2 HW2 HP2 HS
    generalize rgt s = r at H1 H2
    generalize fsb s p = f at H3 H4
    go_wp2_with fail
    refine wp_region_quiet (C := fun w' => Below W2.heap.size W2 w') (by kernel_rfl) (by kernel_rfl) ((Below.refl _ _).drew) ?_
    simp only []
    unfold wpQuiet
    generalize hK : wpQuiet Try.prog _ _ _ _ = K
    rw [if_pos (by go_simp)]
    refine quiet_load27 _ w.heap.size s.st _ _ rfl rfl HNB.out ?_
    go_simp
    subst hK
    unfold wpQuiet
    generalize hK : wpQuiet Try.prog _ _ _ _ = K
    go_simp
    refine ⟨_, fun w' hw => (H1.out w' hw).mono fun e w'' hh => ⟨hh.1, below_class hw hh.2⟩, ?_⟩
    subst hK
    unfold wpQuiet
    generalize hK : wpQuiet Try.prog _ _ _ _ = K
    rw [if_pos (by go_simp)]
    refine quiet_load27 _ w.heap.size s.st _ _ rfl rfl HNB.out ?_
    go_simp
    subst hK
    unfold wpQuiet
    generalize hK : wpQuiet Try.prog _ _ _ _ = K
    go_simp
    refine ⟨_, fun w' hw => (H2.out w' hw).mono fun e w'' hh => ⟨hh.1, below_class hw hh.2⟩, ?_⟩
    subst hK
    unfold wpQuiet
    generalize hK : wpQuiet Try.prog _ _ _ _ = K
    go_simp
    refine ⟨_, fun _ _ => rfl, ?_⟩
    subst hK
    unfold wpQuiet
    generalize hK : wpQuiet Try.prog _ _ _ _ = K
    go_simp
    refine ⟨_, fun _ _ => rfl, ?_⟩
    subst hK
    unfold wpQuiet
    generalize hK : wpQuiet Try.prog _ _ _ _ = K
    rw [if_pos (by go_simp)]
    refine quiet_load27 _ w.heap.size s.st _ _ rfl rfl HNB.out ?_
    go_simp
    subst hK
    unfold wpQuiet
    generalize hK : wpQuiet Try.prog _ _ _ _ = K
    go_simp
    refine ⟨_, fun _ _ => rfl, ?_⟩
    subst hK
    unfold wpQuiet
    generalize hK : wpQuiet Try.prog _ _ _ _ = K
    go_simp
    refine ⟨_, fun w' hw => (H3.out w' hw).mono fun e w'' hh => ⟨hh.1, below_class hw hh.2⟩, ?_⟩
    subst hK
    unfold wpQuiet
    generalize hK : wpQuiet Try.prog _ _ _ _ = K
    rw [if_pos (by go_simp)]
    refine quiet_load27 _ w.heap.size s.st _ _ rfl rfl HNB.out ?_
    go_simp
    subst hK
    unfold wpQuiet
    generalize hK : wpQuiet Try.prog _ _ _ _ = K
    go_simp
    refine ⟨_, fun _ _ => rfl, ?_⟩
    subst hK
    unfold wpQuiet
    generalize hK : wpQuiet Try.prog _ _ _ _ = K
    go_simp
    refine ⟨_, fun w' hw => (H4.out w' hw).mono fun e w'' hh => ⟨hh.1, below_class hw hh.2⟩, ?_⟩
    subst hK
    unfold wpQuiet
    generalize hK : wpQuiet Try.prog _ _ _ _ = K
    go_simp
    refine ⟨_, fun _ _ => rfl, ?_⟩
    subst hK
    unfold wpQuiet
    generalize hK : wpQuiet Try.prog _ _ _ _ = K
    go_simp
    refine ⟨_, fun _ _ => rfl, ?_⟩
    subst hK
    unfold wpQuiet
    generalize hK : wpQuiet Try.prog _ _ _ _ = K
    go_simp
    refine ⟨_, fun _ _ => rfl, ?_⟩
    subst hK
    refine wpQuiet_nil ?_
    intro W3 hb3
    have HB3 := Hid.intro' (below_class HB2.out hb3)
    clear hb3 HB2 HNB H1 H2 H3 H4
    go_wp2
    go_ret
    exact ⟨rfl, HB3.out⟩

end Go.Proofs.Ytdpfgjipjjkcgae
