/- Steps of regions that draw their order: those that only read, and those that end in a call and a store. -/
import Derived.Test.YtjcccdlhdffbdacDoorK
import Derived.StillTailTactics
namespace Go.Proofs.Ytjcccdlhdffbdac
open Go.RowKit

theorem wpStill_val {P : Program} {ops : Array Oper} {w : World} {Q : Act → Prop} {rest : List Oper} {o : Oper} {a : Act} (v : Value) (hw : Region.wanted o (yielded ops a.tmps) = true)
    (hrun : (execOp a.eval o).run P w = .ok (.value v) w) (h : wpStill P ops w Q rest (a.put o.dst v)) : wpStill P ops w Q (o :: rest) a := by
  unfold wpStill
  rw [if_pos hw]
  unfold Oper.still
  rw [hrun]
  exact ⟨rfl, h⟩
theorem wpStill_load23 {ops : Array Oper} {w : World} {Q : Act → Prop} {rest : List Oper} {o : Oper} {a : Act} (x : Operand) (b : Nat) (s : St) (hw : Region.wanted o (yielded ops a.tmps) = true)
    (ho : o.op = .load 23 x) (hx : a.eval x = .pointer (some ⟨b, 0, none⟩)) (hr : SB w b s)
    (h : ∀ K : Act → Prop, (∀ a, wpStill Try.prog ops w Q rest a → K a) → K (a.put o.dst (.agg (sv s).toArray))) : wpStill Try.prog ops w Q (o :: rest) a :=
  wpStill_val _ hw (by unfold execOp; simp only [ho, hx, Sem.run_bind, Sem.run_pure, Result.andThen_ok, load23 w b s hr.range]) (h _ fun _ h => h)
theorem loadD (w : World) (b : Nat) (p l r : Int) (h : Bool) (hD : DB w b p l r h) : (Instr.loadAt 27 (.pointer (some ⟨b, 0, none⟩))).run Try.prog w = .ok (.agg #[.int .i64 p, .int .i64 l, .int .i64 r, .bool h]) w := by
  simp only [Instr.loadAt, Instr.sureAddr, Sem.run_bind, Sem.run_pure, Result.andThen_ok, run_loadVar_row (P := Try.prog) w b 27 27 _ _ _ hD Try.underlying27 rfl infoD]
theorem wpList_loadDg {ops : Array Oper} {rest : List Oper} {op : Oper} {a : Act} {w : World} {Q : Exit → Act → World → Prop} (hgd : Region.wanted op (yielded ops a.tmps) = true) (x : Operand) (ho : op.op = .load 27 x)
    (b : Nat) {p l r : Int} {h : Bool} (hx : a.eval x = .pointer (some ⟨b, 0, none⟩)) (hD : DB w b p l r h)
    (hn : wpList Try.prog ops Q rest (a.put op.dst (.agg #[.int .i64 p, .int .i64 l, .int .i64 r, .bool h])) w) : wpList Try.prog ops Q (op :: rest) a w :=
  wpList_step fun _ hK => by
    rw [if_pos hgd]
    unfold Oper.wp execOp
    simp only [ho, Sem.run_bind, Sem.run_pure, Result.andThen_ok, hx, loadD w b p l r h hD]
    exact hK _ _ hn
theorem wpStill_loadD {ops : Array Oper} {w : World} {Q : Act → Prop} {rest : List Oper} {o : Oper} {a : Act} (x : Operand) (b : Nat) {p l r : Int} {h : Bool} (hw : Region.wanted o (yielded ops a.tmps) = true)
    (ho : o.op = .load 27 x) (hx : a.eval x = .pointer (some ⟨b, 0, none⟩)) (hr : DB w b p l r h)
    (hn : ∀ K : Act → Prop, (∀ a, wpStill Try.prog ops w Q rest a → K a) → K (a.put o.dst (.agg #[.int .i64 p, .int .i64 l, .int .i64 r, .bool h]))) : wpStill Try.prog ops w Q (o :: rest) a :=
  wpStill_val _ hw (by unfold execOp; simp only [ho, hx, Sem.run_bind, Sem.run_pure, Result.andThen_ok, loadD w b p l r h hr]) (hn _ fun _ h => h)

theorem quiet_val {P : Program} {C : World → Prop} {K : Act → Prop} {o : Oper} {a : Act} (v : Value) (hrun : ∀ w, C w → (execOp a.eval o).run P w = .ok (.value v) w) (h : K (a.put o.dst v)) : o.quiet P a C K :=
  ⟨v, fun w hw => by unfold Oper.quietAt; rw [hrun w hw]; exact ⟨rfl, rfl⟩, h⟩
theorem quiet_load23 {C : World → Prop} {K : Act → Prop} {o : Oper} {a : Act} (x : Operand) (b : Nat) (s : St) (ho : o.op = .load 23 x) (hx : a.eval x = .pointer (some ⟨b, 0, none⟩)) (hr : ∀ w, C w → SB w b s)
    (h : K (a.put o.dst (.agg (sv s).toArray))) : o.quiet Try.prog a C K :=
  quiet_val _ (fun w hw => by unfold execOp; simp only [ho, hx, Sem.run_bind, Sem.run_pure, Result.andThen_ok, load23 w b s (hr w hw).range]) h
theorem quiet_loadD {C : World → Prop} {K : Act → Prop} {o : Oper} {a : Act} (x : Operand) (b : Nat) {p l r : Int} {h : Bool} (ho : o.op = .load 27 x) (hx : a.eval x = .pointer (some ⟨b, 0, none⟩)) (hr : ∀ w, C w → DB w b p l r h)
    (hn : K (a.put o.dst (.agg #[.int .i64 p, .int .i64 l, .int .i64 r, .bool h]))) : o.quiet Try.prog a C K :=
  quiet_val _ (fun w hw => by unfold execOp; simp only [ho, hx, Sem.run_bind, Sem.run_pure, Result.andThen_ok, loadD w b p l r h (hr w hw)]) hn
theorem quiet_load3 {C : World → Prop} {K : Act → Prop} {o : Oper} {a : Act} (x : Operand) (b k : Nat) {v : Value} (ho : o.op = .load 3 x) (hx : a.eval x = .pointer (some ⟨b, k, none⟩)) (hr : ∀ w, C w → w.cell? ⟨b, k, none⟩ = some v)
    (h : K (a.put o.dst v)) : o.quiet Try.prog a C K :=
  quiet_val _ (fun w hw => by unfold execOp; simp only [ho, hx, Sem.run_bind, Sem.run_pure, Result.andThen_ok, load3 w b k v (hr w hw)]) h

end Go.Proofs.Ytjcccdlhdffbdac
