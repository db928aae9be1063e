/- A tick of a door, as the document's answer has it. -/
import Derived.Test.YtjcccdlhdffbdacDoorB
namespace Go.Proofs.Ytjcccdlhdffbdac
open Go.RowKit

theorem ret_dv {p l r : Int} {h : Bool} {d : Dr} (e1 : p = d.ph) (e2 : l = d.le) (e3 : r = d.ru) (e4 : h = d.he) : Ending.returned (.agg #[.int .i64 p, .int .i64 l, .int .i64 r, .bool h]) = .returned (dv d) := by rw [e1, e2, e3, e4]; rfl

set_option maxHeartbeats 4000000 in
theorem rstep_of (s : St) (p l r : Int) (h o b : Bool) (w : World) (hp : p = 0 ∨ p = 1 ∨ p = 2 ∨ p = 3) (l1 : 0 ≤ l) (l2 : l ≤ 1000) (r1 : 0 ≤ r) (r2 : r ≤ 10) (HL : Hid (p = 0 ∨ 1 ≤ l)) :
    Calls Try.prog 33 #[.agg (sv s).toArray, .agg #[.int .i64 p, .int .i64 l, .int .i64 r, .bool h], .bool o, .bool b] w fun e w' => e = .returned (dv (DM.step s ⟨p, l, r, h⟩ o b)) ∧ Below w.heap.size w w' := by
  have e5 : (sv s)[5]? = some (.int .i64 s.opn) := rfl
  have e6 : (sv s)[6]? = some (.int .i64 s.wai) := rfl
  have e7 : (sv s)[7]? = some (.int .i64 s.clo) := rfl
  have e8 : (sv s)[8]? = some (.int .i64 s.nud) := rfl
  rcases hp with rfl | rfl | rfl | rfl
  all_goals
    go_enter Try.func33, Try.ntmps33
    go_wp2
  all_goals
    refine bodyPost_ret (by simp [results, Try.results33, go_sem]; rfl) rfl ?_
    refine ⟨?_, ((((Below.refl _ w).alloc (Nat.le_refl _) _).alloc (by simp) _).alloc (by simp; omega) _)⟩
    have HL' := HL.out
    clear e5 e6 e7 e8 HL
  all_goals
    by_cases hn : r < s.nud <;> by_cases hl : 1 < l
  all_goals first
    | (exfalso; simp only [beq_iff_eq, beq_eq_false_iff_ne, ne_eq] at *; omega)
    | (cases b <;> cases h <;> first | (exfalso; simp_all; done) | (simp [dv, DM.step, DM.on, DM.hd, DM.ps, DM.en, DM.tk, DM.z, hn, hl]; done) | (simp_all [dv, DM.step, DM.on, DM.hd, DM.ps, DM.en, DM.tk, DM.z]; done))

theorem rstep_any (s : St) (R : SM.Rt s) (d : Dr) (hd : DM.Rd s d) (o b : Bool) (w : World) :
    Calls Try.prog 33 #[.agg (sv s).toArray, dv d, .bool o, .bool b] w fun e w' => e = .returned (dv (DM.step s d o b)) ∧ Below w.heap.size w w' := by
  rcases hd with rfl | hd
  · exact rstep_of s 0 0 0 false o b w (by omega) (by omega) (by omega) (by omega) (by omega) (Hid.intro' (by omega))
  · have := hd.l1
    have := hd.ph
    exact rstep_of s d.ph d.le d.ru d.he o b w (by omega) (by omega) (hd.le1000 R) hd.r1 (Int.le_trans hd.r2 R.nud2) (Hid.intro' (by omega))

end Go.Proofs.Ytjcccdlhdffbdac
