/- The document's example of a door; and what the laws of doors lean on besides. -/
import Derived.Test.YtjcccdlhdffbdacDoorS
import Derived.Test.YtjcccdlhdffbdacSiteQ
namespace Go.Proofs.Ytjcccdlhdffbdac
open Go.RowKit

theorem rright_t (s : St) (r : SM.Rt s) (w : World) : Calls Try.prog 10 #[.agg (sv s).toArray] w fun e w' => e = .returned (.bool true) ∧ Below w.heap.size w w' := by
  have := rright_any s w
  rwa [rightB_true r] at this
theorem rright_f (s : St) (r : ¬ SM.Rt s) (w : World) : Calls Try.prog 10 #[.agg (sv s).toArray] w fun e w' => e = .returned (.bool false) ∧ Below w.heap.size w w' := by
  have := rright_any s w
  rwa [rightB_false r] at this
def exD : St := ⟨2, 1, 0, 1, 0, 3, 1, 1, 0, 1, 1, 1, 1⟩
theorem ex_step (w : World) : Calls Try.prog 11 #[.agg (sv exD).toArray, .agg #[.int .i64 0, .int .i64 0, .int .i64 0, .bool false], .bool true, .bool false] w fun e w' =>
    e = .returned (.agg #[.int .i64 1, .int .i64 3, .int .i64 0, .bool false]) ∧ Below w.heap.size w w' := step_shut exD true false w

set_option maxHeartbeats 2000000 in
theorem dspeaks_any (w : World) :
    Calls Try.prog 9 #[] w fun e w' => e = .returned (.bool true) ∧ Below w.heap.size w w' := by
  have HB : Hid (Below w.heap.size w (w.alloc (.cells (sv exD).toArray 23))) := Hid.intro' ((Below.refl _ w).alloc (Nat.le_refl _) _)
  have HN := Hid.intro' (SB.new w exD)
  go_enter Try.func9, Try.ntmps9
  go_wp2_with (refine wpList_load23 rfl _ rfl w.heap.size exD rfl HN.out ?_)
  refine (ex_step _).mono ?_
  rintro e W1 ⟨rfl, hb⟩
  have HB1 := Hid.intro' (below_class HB.out hb)
  clear hb HB HN
  go_wp2
  go_ret
  exact ⟨rfl, HB1.out⟩

end Go.Proofs.Ytjcccdlhdffbdac
