/- The example that each law on bounds begins with. -/
import Derived.Test.YtkcppidmbojglagBdP
import Derived.Test.YtkcppidmbojglagBdJ
import Derived.Test.YtkcppidmbojglagRtX
namespace Go.Proofs.Ytkcppidmbojglag
open Go.RowKit

theorem ex0_yes : bgn (exSn 0) ((0 : Nat) : Int) [[]] = some [false] := by decide
theorem ex0_no : bgn (exSn 0) 1 [[]] = none := by decide
theorem ex0_least : lsv (exSn 0) 0 [[]] [false] = 0 := by decide
theorem ex0_begins : bgs [[0]] 0 [[]] = true := by decide

set_option maxRecDepth 100000 in
set_option maxHeartbeats 4000000 in
theorem speaks11_any (w : World) : Calls Try.prog 6 #[] w fun e w' => e = .returned (.bool true) ∧ Below w.heap.size w w' := by
  go_enter Try.func6, Try.ntmps6
  go_wp2_with fail
  have hX : Below w.heap.size w ((((w.alloc (.cells #[.int .i64 0, .int .i64 0] 44)).alloc (.cells #[.int .i64 0, .int .i64 1] 46)).alloc (.cells (nv exSt (.slice (some ⟨w.heap.size, 0, none⟩) 1 1) (.slice (some ⟨w.heap.size + 1, 0, none⟩) 1 1)).toArray 27)).alloc (.cells #[.slice none 0 0] 36)) := ((((Below.refl _ w).alloc (Nat.le_refl _) _).alloc (by simp) _).alloc (by simp; omega) _).alloc (by simp; omega) _
  have hc : R2 (fun _ => True) ((((w.alloc (.cells #[.int .i64 0, .int .i64 0] 44)).alloc (.cells #[.int .i64 0, .int .i64 1] 46)).alloc (.cells (nv exSt (.slice (some ⟨w.heap.size, 0, none⟩) 1 1) (.slice (some ⟨w.heap.size + 1, 0, none⟩) 1 1)).toArray 27)).alloc (.cells #[.slice none 0 0] 36)) (.slice (some ⟨w.heap.size, 0, none⟩) 1 1) (exSn 0).cs := R2.lit1 _ _ _ _ (0, 0) trivial (by simp; omega) (Nat.le_refl _) (by go_simp) (by go_simp)
  have hw : R2 (fun _ => True) ((((w.alloc (.cells #[.int .i64 0, .int .i64 0] 44)).alloc (.cells #[.int .i64 0, .int .i64 1] 46)).alloc (.cells (nv exSt (.slice (some ⟨w.heap.size, 0, none⟩) 1 1) (.slice (some ⟨w.heap.size + 1, 0, none⟩) 1 1)).toArray 27)).alloc (.cells #[.slice none 0 0] 36)) (.slice (some ⟨w.heap.size + 1, 0, none⟩) 1 1) (exSn 0).ws := R2.lit1 _ _ _ _ (0, 1) trivial (by simp) (Nat.le_refl _) (by go_simp) (by go_simp)
  have hp : RL (fun _ => True) ((((w.alloc (.cells #[.int .i64 0, .int .i64 0] 44)).alloc (.cells #[.int .i64 0, .int .i64 1] 46)).alloc (.cells (nv exSt (.slice (some ⟨w.heap.size, 0, none⟩) 1 1) (.slice (some ⟨w.heap.size + 1, 0, none⟩) 1 1)).toArray 27)).alloc (.cells #[.slice none 0 0] 36)) (.slice (some ⟨w.heap.size + 1 + 1 + 1, 0, none⟩) 1 1) [[]] := RL.lit1 _ _ _ _ (.slice none 0 0) _ trivial (by simp) (Nat.le_refl _) (by go_simp) (RI.nil _ _)
  have hn : NB ((((w.alloc (.cells #[.int .i64 0, .int .i64 0] 44)).alloc (.cells #[.int .i64 0, .int .i64 1] 46)).alloc (.cells (nv exSt (.slice (some ⟨w.heap.size, 0, none⟩) 1 1) (.slice (some ⟨w.heap.size + 1, 0, none⟩) 1 1)).toArray 27)).alloc (.cells #[.slice none 0 0] 36)) (w.heap.size + 1 + 1) exSt (.slice (some ⟨w.heap.size, 0, none⟩) 1 1) (.slice (some ⟨w.heap.size + 1, 0, none⟩) 1 1) := by
    have h1 := (NB.new ((w.alloc (.cells #[.int .i64 0, .int .i64 0] 44)).alloc (.cells #[.int .i64 0, .int .i64 1] 46)) exSt (.slice (some ⟨w.heap.size, 0, none⟩) 1 1) (.slice (some ⟨w.heap.size + 1, 0, none⟩) 1 1)).alloc (.cells #[.slice none 0 0] 36)
    rw [World.size_alloc, World.size_alloc] at h1
    exact h1
  refine (least_yes (exSn 0) (fun _ => True) _ _ _ 0 [[]] [false] _ hc hw hp ex0_yes (by decide) (by decide)).mono ?_
  rw [ex0_least]
  rintro e W2 ⟨rfl, hb2⟩
  have HB2 := Hid.intro' (below_class hX hb2)
  have HC2 := Hid.intro' (hc.below' hb2)
  have HW2 := Hid.intro' (hw.below' hb2)
  have HN2 := Hid.intro' (hn.below' hb2)
  clear hX hc hw hp hn hb2
  generalize Value.slice (some ⟨w.heap.size, 0, none⟩) 1 1 = vc at HC2 HN2 ⊢
  generalize Value.slice (some ⟨w.heap.size + 1, 0, none⟩) 1 1 = vw at HW2 HN2 ⊢
  generalize w.heap.size + 1 + 1 = bs at HN2 ⊢
  go_wp2_with (refine wpList_load27g rfl _ rfl bs exSt _ _ rfl HN2.out ?_)
  have hY : Below W2.heap.size W2 (W2.alloc (.cells #[.slice none 0 0] 36)) := (Below.refl _ W2).alloc (Nat.le_refl _) _
  have hp : RL (fun _ => True) (W2.alloc (.cells #[.slice none 0 0] 36)) (.slice (some ⟨W2.heap.size, 0, none⟩) 1 1) [[]] := RL.lit1 _ _ _ _ (.slice none 0 0) _ trivial (by simp) (Nat.le_refl _) (by go_simp) (RI.nil _ _)
  refine (least_no (exSn 0) (fun _ => True) _ _ _ 1 [[]] _ (HC2.out.below' hY) (HW2.out.below' hY) hp ex0_no (by decide) (by decide)).mono ?_
  rintro e W3 ⟨rfl, hb3⟩
  have HB3 := Hid.intro' (below_class (below_class HB2.out hY) hb3)
  clear hY hp hb3 HB2 HC2 HW2 HN2
  go_wp2_with fail
  have hZ : Below W3.heap.size W3 (((W3.alloc (.cells #[.int .i64 0] 3)).alloc (.cells #[.slice (some ⟨W3.heap.size, 0, none⟩) 1 1] 36)).alloc (.cells #[.slice none 0 0] 36)) := (((Below.refl _ W3).alloc (Nat.le_refl _) _).alloc (by simp) _).alloc (by simp; omega) _
  have hp : RL (fun _ => True) (((W3.alloc (.cells #[.int .i64 0] 3)).alloc (.cells #[.slice (some ⟨W3.heap.size, 0, none⟩) 1 1] 36)).alloc (.cells #[.slice none 0 0] 36)) (.slice (some ⟨W3.heap.size + 1, 0, none⟩) 1 1) [[0]] := RL.lit1 _ _ _ _ (.slice (some ⟨W3.heap.size, 0, none⟩) 1 1) _ trivial (by simp) (Nat.le_refl _) (by go_simp) (RI.lit1 _ _ _ _ _ trivial (by simp; omega) (Nat.le_refl _) (by go_simp))
  have hq : RL (fun _ => True) (((W3.alloc (.cells #[.int .i64 0] 3)).alloc (.cells #[.slice (some ⟨W3.heap.size, 0, none⟩) 1 1] 36)).alloc (.cells #[.slice none 0 0] 36)) (.slice (some ⟨W3.heap.size + 1 + 1, 0, none⟩) 1 1) [[]] := RL.lit1 _ _ _ _ (.slice none 0 0) _ trivial (by simp) (Nat.le_refl _) (by go_simp) (RI.nil _ _)
  refine (begins_any (fun _ => True) _ _ 0 [[0]] [[]] _ hp hq (by decide) (by decide) (by decide) (by decide)).mono ?_
  rw [ex0_begins]
  rintro e W4 ⟨rfl, hb4⟩
  have HB4 := Hid.intro' (below_class (below_class HB3.out hZ) hb4)
  clear hZ hp hq hb4 HB3
  go_wp2
  go_ret
  exact ⟨rfl, HB4.out⟩

end Go.Proofs.Ytkcppidmbojglag
