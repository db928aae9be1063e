/- Frames held against one another. -/
import Derived.Test.YtkbfljacjfaamadFrI
namespace Go.Proofs.Ytkbfljacjfaamad
open Go.RowKit

/-- are two frames one? -/
def smF (x y : Fr) : Bool := decide (x.ki = y.ki) && decide (x.ca = y.ca) && decide (x.sq = y.sq) && decide (x.a = y.a) && decide (x.b = y.b) && decide (x.c = y.c)
theorem smF_iff (x y : Fr) : smF x y = true ↔ x = y := by
  obtain ⟨a, b, c, d, e, f⟩ := x
  obtain ⟨a', b', c', d', e', f'⟩ := y
  simp [smF, and_assoc]
theorem smF_refl (x : Fr) : smF x x = true := (smF_iff x x).2 rfl
theorem smF_no {x y : Fr} (h : x ≠ y) : smF x y = false := by rw [Bool.eq_false_iff]; exact fun e => h ((smF_iff x y).1 e)
set_option maxHeartbeats 400000 in
theorem eqF (w : World) (x y : Fr) : (Op.equalIn 10000 55 (.agg #[.int .i64 x.ki, .int .i64 x.ca, .int .i64 x.sq, .int .i64 x.a, .int .i64 x.b, .int .i64 x.c]) (.agg #[.int .i64 y.ki, .int .i64 y.ca, .int .i64 y.sq, .int .i64 y.a, .int .i64 y.b, .int .i64 y.c])).run Try.prog w = .ok (smF x y) w := by
  have u3 := Try.underlying3
  have a3 := Try.isAgg3
  have z3 := Try.sizeOf3
  have hS : Try.prog.underlying 55 = some (.struct (Try.prog.fieldsOf 55)) := by kernel_rfl
  have hp : Try.prog.stoodInHeld 55 = false := by kernel_rfl
  rw [show (10000 : Nat) = 9999 + 1 from rfl, run_equalIn_agg w 9999 55 _ _ hS hp]
  simp only [Program.fieldsOf, Try.underlying55]
  go_simp
  unfold smF
  by_cases h1 : x.ki = y.ki <;> by_cases h2 : x.ca = y.ca <;> by_cases h3 : x.sq = y.sq <;> by_cases h4 : x.a = y.a <;> by_cases h5 : x.b = y.b <;> by_cases h6 : x.c = y.c <;> simp [h1, h2, h3, h4, h5, h6]

theorem loadF (w : World) (b o : Nat) (f : Fr) (h : w.rangeAt b o (fv f)) : (Instr.loadAt 55 (.pointer (some ⟨b, o, none⟩))).run Try.prog w = .ok (.agg #[.int .i64 f.ki, .int .i64 f.ca, .int .i64 f.sq, .int .i64 f.a, .int .i64 f.b, .int .i64 f.c]) w :=
  run_loadAt_mid (P := Try.prog) w b o 55 (fv f) _ h Try.underlying55 rfl infoF
theorem wpList_loadFg {ops : Array Oper} {rest : List Oper} {op : Oper} {a : Act} {w : World} {Q : Exit → Act → World → Prop} (hgd : Region.wanted op (yielded ops a.tmps) = true) (x : Operand) (ho : op.op = .load 55 x)
    (b : Nat) {f : Fr} (hx : a.eval x = .pointer (some ⟨b, 0, none⟩)) (H : FB w b f)
    (h : wpList Try.prog ops Q rest (a.put op.dst (.agg #[.int .i64 f.ki, .int .i64 f.ca, .int .i64 f.sq, .int .i64 f.a, .int .i64 f.b, .int .i64 f.c])) w) : wpList Try.prog ops Q (op :: rest) a w :=
  wpList_step fun _ hK => by
    rw [if_pos hgd]
    unfold Oper.wp execOp
    simp only [ho, Sem.run_bind, Sem.run_pure, Result.andThen_ok, hx, loadF w b 0 f H.range]
    exact hK _ _ h

/-- a row that was just made grows -/
theorem made_grown {W W' : World} {o : Obj} {v : Value} (hg : (W.alloc o).grownBy W' v.ownBlock) (hv : v.ownBlock = some W.heap.size) : Below W.heap.size W W' :=
  ((Below.refl _ W).alloc (Nat.le_refl _) o).grown hg (by simp) (by intro k hk; rw [hv] at hk; cases hk; exact Nat.le_refl _)

end Go.Proofs.Ytkbfljacjfaamad
