/- The example that each law on routes begins with. -/
import Derived.Test.YtkcppidmbojglafRtP
import Derived.Test.YtkcppidmbojglafRtX
namespace Go.Proofs.Ytkcppidmbojglaf
open Go.RowKit

theorem ex_yes : fsb (exSn 4) [[0]] = true := by decide
theorem ex_no : fsb (exSn 4) [[]] = false := by decide
theorem ex_cost : RM.cst exSt (exSn 4).ws (exSn 4).cs [[0]] = 4 := by decide

set_option maxRecDepth 100000 in
set_option maxHeartbeats 4000000 in
theorem speaks10_any (w : World) : Calls Try.prog 17 #[] w fun e w' => e = .returned (.bool true) ∧ Below w.heap.size w w' := by
  go_enter Try.func17, Try.ntmps17
  go_wp2_with fail
  have hX : Below w.heap.size w (((((w.alloc (.cells #[.int .i64 0, .int .i64 4] 51)).alloc (.cells #[.int .i64 0, .int .i64 1] 40)).alloc (.cells (nv exSt (.slice (some ⟨w.heap.size, 0, none⟩) 1 1) (.slice (some ⟨w.heap.size + 1, 0, none⟩) 1 1)).toArray 27)).alloc (.cells #[.int .i64 0] 3)).alloc (.cells #[.slice (some ⟨w.heap.size + 1 + 1 + 1, 0, none⟩) 1 1] 38)) := (((((Below.refl _ w).alloc (Nat.le_refl _) _).alloc (by simp) _).alloc (by simp; omega) _).alloc (by simp; omega) _).alloc (by simp; omega) _
  have hc : R2 (fun _ => True) (((((w.alloc (.cells #[.int .i64 0, .int .i64 4] 51)).alloc (.cells #[.int .i64 0, .int .i64 1] 40)).alloc (.cells (nv exSt (.slice (some ⟨w.heap.size, 0, none⟩) 1 1) (.slice (some ⟨w.heap.size + 1, 0, none⟩) 1 1)).toArray 27)).alloc (.cells #[.int .i64 0] 3)).alloc (.cells #[.slice (some ⟨w.heap.size + 1 + 1 + 1, 0, none⟩) 1 1] 38)) (.slice (some ⟨w.heap.size, 0, none⟩) 1 1) (exSn 4).cs := R2.lit1 _ _ _ _ (0, 4) trivial (by simp; omega) (Nat.le_refl _) (by go_simp) (by go_simp)
  have hw : R2 (fun _ => True) (((((w.alloc (.cells #[.int .i64 0, .int .i64 4] 51)).alloc (.cells #[.int .i64 0, .int .i64 1] 40)).alloc (.cells (nv exSt (.slice (some ⟨w.heap.size, 0, none⟩) 1 1) (.slice (some ⟨w.heap.size + 1, 0, none⟩) 1 1)).toArray 27)).alloc (.cells #[.int .i64 0] 3)).alloc (.cells #[.slice (some ⟨w.heap.size + 1 + 1 + 1, 0, none⟩) 1 1] 38)) (.slice (some ⟨w.heap.size + 1, 0, none⟩) 1 1) (exSn 4).ws := R2.lit1 _ _ _ _ (0, 1) trivial (by simp) (Nat.le_refl _) (by go_simp) (by go_simp)
  have hp : RL (fun _ => True) (((((w.alloc (.cells #[.int .i64 0, .int .i64 4] 51)).alloc (.cells #[.int .i64 0, .int .i64 1] 40)).alloc (.cells (nv exSt (.slice (some ⟨w.heap.size, 0, none⟩) 1 1) (.slice (some ⟨w.heap.size + 1, 0, none⟩) 1 1)).toArray 27)).alloc (.cells #[.int .i64 0] 3)).alloc (.cells #[.slice (some ⟨w.heap.size + 1 + 1 + 1, 0, none⟩) 1 1] 38)) (.slice (some ⟨w.heap.size + 1 + 1 + 1 + 1, 0, none⟩) 1 1) [[0]] := RL.lit1 _ _ _ _ (.slice (some ⟨w.heap.size + 1 + 1 + 1, 0, none⟩) 1 1) _ trivial (by simp) (Nat.le_refl _) (by go_simp) (RI.lit1 _ _ _ _ _ trivial (by simp) (Nat.le_refl _) (by go_simp))
  have hn : NB (((((w.alloc (.cells #[.int .i64 0, .int .i64 4] 51)).alloc (.cells #[.int .i64 0, .int .i64 1] 40)).alloc (.cells (nv exSt (.slice (some ⟨w.heap.size, 0, none⟩) 1 1) (.slice (some ⟨w.heap.size + 1, 0, none⟩) 1 1)).toArray 27)).alloc (.cells #[.int .i64 0] 3)).alloc (.cells #[.slice (some ⟨w.heap.size + 1 + 1 + 1, 0, none⟩) 1 1] 38)) (w.heap.size + 1 + 1) exSt (.slice (some ⟨w.heap.size, 0, none⟩) 1 1) (.slice (some ⟨w.heap.size + 1, 0, none⟩) 1 1) := by
    have h1 := ((NB.new ((w.alloc (.cells #[.int .i64 0, .int .i64 4] 51)).alloc (.cells #[.int .i64 0, .int .i64 1] 40)) exSt (.slice (some ⟨w.heap.size, 0, none⟩) 1 1) (.slice (some ⟨w.heap.size + 1, 0, none⟩) 1 1)).alloc (.cells #[.int .i64 0] 3)).alloc (.cells #[.slice (some ⟨w.heap.size + 1 + 1 + 1, 0, none⟩) 1 1] 38)
    rw [World.size_alloc, World.size_alloc] at h1
    exact h1
  refine (cost_yes (exSn 4) (fun _ => True) _ _ _ [[0]] _ hc hw hp ex_yes (by decide) (by decide)).mono ?_
  rw [show RM.cst (exSn 4).st (exSn 4).ws (exSn 4).cs [[0]] = 4 from ex_cost]
  rintro e W2 ⟨rfl, hb2⟩
  have HB2 := Hid.intro' (below_class hX hb2)
  have HC2 := Hid.intro' (hc.below' hb2)
  have HW2 := Hid.intro' (hw.below' hb2)
  have HN2 := Hid.intro' (hn.below' hb2)
  clear hX hc hw hp hn hb2
  generalize Value.slice (some ⟨w.heap.size, 0, none⟩) 1 1 = vc at HC2 HN2 ⊢
  generalize Value.slice (some ⟨w.heap.size + 1, 0, none⟩) 1 1 = vw at HW2 HN2 ⊢
  generalize w.heap.size + 1 + 1 = bs at HN2 ⊢
  go_wp2_with (refine wpList_load27g rfl _ rfl bs exSt _ _ rfl HN2.out ?_)
  have hY : Below W2.heap.size W2 ((W2.alloc (.cells #[] 3)).alloc (.cells #[.slice (some ⟨W2.heap.size, 0, none⟩) 0 0] 38)) := ((Below.refl _ W2).alloc (Nat.le_refl _) _).alloc (by simp) _
  have hp : RL (fun _ => True) ((W2.alloc (.cells #[] 3)).alloc (.cells #[.slice (some ⟨W2.heap.size, 0, none⟩) 0 0] 38)) (.slice (some ⟨W2.heap.size + 1, 0, none⟩) 1 1) [[]] := RL.lit1 _ _ _ _ (.slice (some ⟨W2.heap.size, 0, none⟩) 0 0) _ trivial (by simp) (Nat.le_refl _) (by go_simp) (RI.lit0 _ _ _)
  refine (cost_no (exSn 4) (fun _ => True) _ _ _ [[]] _ (HC2.out.below' hY) (HW2.out.below' hY) hp ex_no (by decide) (by decide)).mono ?_
  rintro e W3 ⟨rfl, hb3⟩
  have HB3 := Hid.intro' (below_class (below_class HB2.out hY) hb3)
  clear hY hp hb3 HB2 HC2 HW2 HN2
  go_wp2
  go_ret
  exact ⟨rfl, HB3.out⟩

end Go.Proofs.Ytkcppidmbojglaf
