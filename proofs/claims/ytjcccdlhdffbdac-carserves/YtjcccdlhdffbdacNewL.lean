/- Steps of the head of a region that makes new variables. -/
import Derived.Test.YtjcccdlhdffbdacNewR
import Derived.Test.YtjcccdlhdffbdacCarB
namespace Go.Proofs.Ytjcccdlhdffbdac
open Go.RowKit

theorem calm_val {P : Program} {W0 : World} {K : Act → Prop} {o : Oper} {a : Act} (v : Value) (hrun : ∀ w, Below W0.heap.size W0 w → (execOp a.eval o).run P w = .ok (.value v) w) (h : K (a.put o.dst v)) : Oper.calm P W0 o a K :=
  ⟨v, fun w hw => by unfold Oper.quietAt; rw [hrun w hw]; exact ⟨rfl, rfl⟩, h⟩
theorem calm_load23 {W0 : World} {K : Act → Prop} {o : Oper} {a : Act} (x : Operand) (b : Nat) (s : St) (ho : o.op = .load 23 x) (hx : a.eval x = .pointer (some ⟨b, 0, none⟩)) (hr : ∀ w, Below W0.heap.size W0 w → SB w b s)
    (h : K (a.put o.dst (.agg (sv s).toArray))) : Oper.calm Try.prog W0 o a K :=
  calm_val _ (fun w hw => by unfold execOp; simp only [ho, hx, Sem.run_bind, Sem.run_pure, Result.andThen_ok, load23 w b s (hr w hw).range]) h
theorem calm_loadC {W0 : World} {K : Act → Prop} {o : Oper} {a : Act} (x : Operand) (b : Nat) {c : Cr} (ho : o.op = .load 31 x) (hx : a.eval x = .pointer (some ⟨b, 0, none⟩)) (hr : ∀ w, Below W0.heap.size W0 w → CB w b c)
    (hn : K (a.put o.dst (.agg #[.int .i64 c.fl, .int .i64 c.tg, .int .i64 c.ti, .int .i64 c.d.ph, .int .i64 c.d.le, .int .i64 c.d.ru, .bool c.d.he, .bool c.fa]))) : Oper.calm Try.prog W0 o a K :=
  calm_val _ (fun w hw => by unfold execOp; simp only [ho, hx, Sem.run_bind, Sem.run_pure, Result.andThen_ok, loadC w b c (hr w hw)]) hn
theorem calm_load3 {W0 : World} {K : Act → Prop} {o : Oper} {a : Act} (x : Operand) (b k : Nat) {v : Value} (ho : o.op = .load 3 x) (hx : a.eval x = .pointer (some ⟨b, k, none⟩)) (hr : ∀ w, Below W0.heap.size W0 w → w.cell? ⟨b, k, none⟩ = some v)
    (h : K (a.put o.dst v)) : Oper.calm Try.prog W0 o a K :=
  calm_val _ (fun w hw => by unfold execOp; simp only [ho, hx, Sem.run_bind, Sem.run_pure, Result.andThen_ok, load3 w b k v (hr w hw)]) h
theorem loadMB (w : World) (b : Nat) (o : Bool) (g : Int) (h : MB w b o g) : (Instr.loadAt 35 (.pointer (some ⟨b, 0, none⟩))).run Try.prog w = .ok (.agg #[.bool o, .int .i64 g]) w := by
  simp only [Instr.loadAt, Instr.sureAddr, Sem.run_bind, Sem.run_pure, Result.andThen_ok, run_loadVar_row (P := Try.prog) w b 35 35 _ _ _ h Try.underlying35 rfl infoM]
theorem calm_loadMB {W0 : World} {K : Act → Prop} {o : Oper} {a : Act} (x : Operand) (b : Nat) {m : Bool} {g : Int} (ho : o.op = .load 35 x) (hx : a.eval x = .pointer (some ⟨b, 0, none⟩)) (hr : ∀ w, Below W0.heap.size W0 w → MB w b m g)
    (hn : K (a.put o.dst (.agg #[.bool m, .int .i64 g]))) : Oper.calm Try.prog W0 o a K :=
  calm_val _ (fun w hw => by unfold execOp; simp only [ho, hx, Sem.run_bind, Sem.run_pure, Result.andThen_ok, loadMB w b m g (hr w hw)]) hn
theorem quiet_loadMB {C : World → Prop} {K : Act → Prop} {o : Oper} {a : Act} (x : Operand) (b : Nat) {m : Bool} {g : Int} (ho : o.op = .load 35 x) (hx : a.eval x = .pointer (some ⟨b, 0, none⟩)) (hr : ∀ w, C w → MB w b m g)
    (hn : K (a.put o.dst (.agg #[.bool m, .int .i64 g]))) : o.quiet Try.prog a C K :=
  quiet_val _ (fun w hw => by unfold execOp; simp only [ho, hx, Sem.run_bind, Sem.run_pure, Result.andThen_ok, loadMB w b m g (hr w hw)]) hn
theorem wpList_loadMB {ops : Array Oper} {rest : List Oper} {op : Oper} {a : Act} {w : World} {Q : Exit → Act → World → Prop} (hgd : op.guard = none) (x : Operand) (ho : op.op = .load 35 x)
    (b : Nat) {m : Bool} {g : Int} (hx : a.eval x = .pointer (some ⟨b, 0, none⟩)) (h : MB w b m g)
    (hn : wpList Try.prog ops Q rest (a.put op.dst (.agg #[.bool m, .int .i64 g])) w) : wpList Try.prog ops Q (op :: rest) a w :=
  wpList_load_row hgd 35 x ho b hx _ _ _ _ h Try.underlying35 rfl infoM hn
/-- a new car -/
theorem zeroC {W : World} {D : Nat} (h : W.heap[D]? = some (.cells #[.int .i64 (CM.atF 0).fl, .int .i64 (CM.atF 0).tg, .int .i64 (CM.atF 0).ti, .int .i64 (CM.atF 0).d.ph, .int .i64 (CM.atF 0).d.le, .int .i64 (CM.atF 0).d.ru, .bool (CM.atF 0).d.he, .bool (CM.atF 0).fa] 31)) : CB W D (CM.atF 0) := h

end Go.Proofs.Ytjcccdlhdffbdac
