/- Stops in memory. -/
import Derived.Test.YtkcppidmbojglagPlC
import Derived.Test.YtkcppidmbojglagMth
import Derived.Laws.Rows
import Derived.Laws.CopyOwn
namespace Go.Proofs.Ytkcppidmbojglag
open Go.RowKit

/-- a block that holds a stop -/
def TB (W : World) (b : Nat) (a : RM.Sp) : Prop := W.heap[b]? = some (.cells #[.int .i64 a.fl, .int .i64 a.he, .int .i64 a.le] 71 (0, 0))
section
variable {W W' : World} {b : Nat} {a : RM.Sp}
theorem TB.lt (H : TB W b a) : b < W.heap.size := (Array.getElem?_eq_some_iff.1 H).1
theorem TB.c0 (H : TB W b a) : W.cell? ⟨b, 0, none⟩ = some (.int .i64 a.fl) := by simp [World.cell?, show W.heap[b]? = _ from H]
theorem TB.c1 (H : TB W b a) : W.cell? ⟨b, 1, none⟩ = some (.int .i64 a.he) := by simp [World.cell?, show W.heap[b]? = _ from H]
theorem TB.c2 (H : TB W b a) : W.cell? ⟨b, 2, none⟩ = some (.int .i64 a.le) := by simp [World.cell?, show W.heap[b]? = _ from H]
theorem TB.below' (H : TB W b a) (hb : Below W.heap.size W W') : TB W' b a := (hb.block b H.lt).trans H
theorem TB.kp {G : Nat → Prop} (H : TB W b a) (k : Kp G W W') (hG : ¬ G b) : TB W' b a := (k.block b H.lt hG).trans H
theorem TB.new (W : World) (a : RM.Sp) : TB (W.alloc (.cells #[.int .i64 a.fl, .int .i64 a.he, .int .i64 a.le] 71)) W.heap.size a := World.alloc_heap_new W _
end
theorem infoT : (Try.prog.info? 71).map (·.size) = some 3 := by kernel_rfl
theorem kp_row (b : Nat) (w : World) (cs : Array Value) : Kp (fun k => k = b) w (w.setRow b cs) := by
  have h : Below 0 w (w.setRow b cs) := below_setRow (Below.refl 0 w) (Nat.zero_le _) cs
  exact ⟨h.os, h.tape, h.output, h.size, fun k _ hk => setRow_other w b k cs hk⟩
theorem wpList_storeT {ops : Array Oper} {rest : List Oper} {op : Oper} {a : Act} {w : World} {Q : Exit → Act → World → Prop} (hgd : op.guard = none) (x y : Operand) (ho : op.op = .store 71 x y)
    (b : Nat) {s : RM.Sp} {f h l : Int} (hx : a.eval x = .pointer (some ⟨b, 0, none⟩)) (hy : a.eval y = .agg #[.int .i64 f, .int .i64 h, .int .i64 l]) (hL : TB w b s)
    (hn : ∀ W', Kp (fun k => k = b) w W' → TB W' b ⟨f, h, l⟩ → wpList Try.prog ops Q rest (a.put op.dst undef) W') : wpList Try.prog ops Q (op :: rest) a w :=
  wpList_store_row hgd 71 x y ho b _ hx hy _ _ hL infoT rfl (by simp [Value.oneCell']) (hn _ (kp_row b w _) (setRow_heap w b _ _ _ _ hL))
theorem loadT (w : World) (b : Nat) (a : RM.Sp) (h : TB w b a) : (Instr.loadAt 71 (.pointer (some ⟨b, 0, none⟩))).run Try.prog w = .ok (.agg #[.int .i64 a.fl, .int .i64 a.he, .int .i64 a.le]) w := by
  simp only [Instr.loadAt, Instr.sureAddr, Sem.run_bind, Sem.run_pure, Result.andThen_ok, run_loadVar_row (P := Try.prog) w b 71 71 _ _ _ h Try.underlying71 rfl infoT]
theorem quiet_loadT {C : World → Prop} {K : Act → Prop} {o : Oper} {a : Act} (x : Operand) (b : Nat) (s : RM.Sp) (ho : o.op = .load 71 x) (hx : a.eval x = .pointer (some ⟨b, 0, none⟩)) (hr : ∀ w, C w → TB w b s)
    (hn : K (a.put o.dst (.agg #[.int .i64 s.fl, .int .i64 s.he, .int .i64 s.le]))) : o.quiet Try.prog a C K :=
  quiet_val _ (fun w hw => by unfold execOp; simp only [ho, hx, Sem.run_bind, Sem.run_pure, Result.andThen_ok, loadT w b s (hr w hw)]) hn
theorem quiet_load23r {C : World → Prop} {K : Act → Prop} {o : Oper} {a : Act} (x : Operand) (b : Nat) (s : St) (ho : o.op = .load 23 x) (hx : a.eval x = .pointer (some ⟨b, 0, none⟩)) (hr : ∀ w, C w → SB w b s)
    (h : K (a.put o.dst (.agg (sv s).toArray))) : o.quiet Try.prog a C K :=
  quiet_val _ (fun w hw => by unfold execOp; simp only [ho, hx, Sem.run_bind, Sem.run_pure, Result.andThen_ok, load23 w b s (hr w hw).range]) h
/-- a stop held against itself -/
theorem eqT (f h l : Int) (w : World) : (Op.equalIn 10000 71 (.agg #[.int .i64 f, .int .i64 h, .int .i64 l]) (.agg #[.int .i64 f, .int .i64 h, .int .i64 l])).run Try.prog w = .ok true w := by
  have u3 := Try.underlying3
  have uT := Try.underlying71
  go_simp
theorem retT {fn : Func} {t : Tmp} (hf : fn.results = #[.cell t 71]) {tmps : Array Value} {w : World} {b : Nat} {a : RM.Sp} (hp : tmps.getD t undef = .pointer (some ⟨b, 0, none⟩)) (hC : TB w b a) :
    (results fn tmps).run Try.prog w = .ok (.agg #[.int .i64 a.fl, .int .i64 a.he, .int .i64 a.le]) w :=
  results_cell_row hf tmps w b _ _ _ _ hp hC Try.underlying71 rfl infoT

end Go.Proofs.Ytkcppidmbojglag
