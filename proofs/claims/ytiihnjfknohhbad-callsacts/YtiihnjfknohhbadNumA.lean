/- num.Add: what it answers. -/
import Derived.Test.YtiihnjfknohhbadNum
import Derived.Test.YtiihnjfknohhbadSiteB
namespace Go.Proofs.Ytiihnjfknohhbad
open Go.RowKit

set_option maxHeartbeats 400000 in
theorem within_any (a : Int) (w : World) :
    Calls Try.prog 37 #[.int .i64 a] w fun e w' => e = .returned (.int .i64 (NumM.cl a)) ∧ w' = w := by
  go_enter Try.func37, Try.ntmps37
  go_wp2
  all_goals
    go_ret
    exact ⟨ret_int (by unfold NumM.cl; repeat' split
                       all_goals omega), rfl⟩

set_option maxHeartbeats 400000 in
theorem add_any (a b : Int) (w : World) :
    Calls Try.prog 28 #[.int .i64 a, .int .i64 b] w fun e w' => e = .returned (.int .i64 (NumM.cl (NumM.cl a + NumM.cl b))) ∧ w' = w := by
  obtain ⟨a1, a2⟩ := NumM.cl_bd a
  obtain ⟨b1, b2⟩ := NumM.cl_bd b
  go_enter Try.func28, Try.ntmps28
  go_wp2_with (go_at_call 37; refine (within_any _ _).mono ?_; rintro e w' ⟨rfl, rfl⟩)
  go_ret
  exact ⟨rfl, rfl⟩

end Go.Proofs.Ytiihnjfknohhbad
