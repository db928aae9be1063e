/- Steps of regions that draw their order: calls, keys, single cells. -/
import Derived.Test.YtiihnjfknohhbadCallB
import Derived.Laws.Tables
import Derived.Laws.CopyOwn
import Derived.Deep.Quiet
import Derived.Deep.QuietTactic
import Derived.BigQuiet
namespace Go.Proofs.Ytiihnjfknohhbad
open Go.RowKit

theorem quiet_val {P : Program} {C : World → Prop} {K : Act → Prop} {o : Oper} {a : Act} (v : Value) (hrun : ∀ w, C w → (execOp a.eval o).run P w = .ok (.value v) w) (h : K (a.put o.dst v)) : o.quiet P a C K :=
  ⟨v, fun w hw => by unfold Oper.quietAt; rw [hrun w hw]; exact ⟨rfl, rfl⟩, h⟩
theorem infoK : (Try.prog.info? 35).map (·.size) = some 4 := by kernel_rfl
/-- a call at a place of a block -/
theorem loadK (w : World) (b o : Nat) (c : Cl) (h : w.rangeAt b o (cv c)) : (Instr.loadAt 35 (.pointer (some ⟨b, o, none⟩))).run Try.prog w = .ok (.agg #[.int .i64 c.fl, .int .i64 c.ca, .int .i64 c.ag, .bool c.up]) w :=
  run_loadAt_mid (P := Try.prog) w b o 35 (cv c) _ h Try.underlying35 rfl infoK
theorem quiet_loadK {C : World → Prop} {K : Act → Prop} {o : Oper} {a : Act} (x : Operand) (b k : Nat) {c : Cl} (ho : o.op = .load 35 x) (hx : a.eval x = .pointer (some ⟨b, k, none⟩)) (hr : ∀ w, C w → w.rangeAt b k (cv c))
    (hn : K (a.put o.dst (.agg #[.int .i64 c.fl, .int .i64 c.ca, .int .i64 c.ag, .bool c.up]))) : o.quiet Try.prog a C K :=
  quiet_val _ (fun w hw => by unfold execOp; simp only [ho, hx, Sem.run_bind, Sem.run_pure, Result.andThen_ok, loadK w b k c (hr w hw)]) hn
/-- a call in a block of its own -/
def CB (W : World) (b : Nat) (c : Cl) : Prop := W.heap[b]? = some (.cells #[.int .i64 c.fl, .int .i64 c.ca, .int .i64 c.ag, .bool c.up] 35 (0, 0))
section
variable {W W' : World} {b : Nat} {c : Cl}
theorem CB.lt (H : CB W b c) : b < W.heap.size := (Array.getElem?_eq_some_iff.1 H).1
theorem CB.range (H : CB W b c) : W.rangeAt b 0 (cv c) := fun j v hv => by
  rw [Nat.zero_add, cell_of_row W b j _ _ _ H, ← hv]; simp [cv]
theorem CB.c0 (H : CB W b c) : W.cell? ⟨b, 0, none⟩ = some (.int .i64 c.fl) := H.range 0 _ rfl
theorem CB.c1 (H : CB W b c) : W.cell? ⟨b, 1, none⟩ = some (.int .i64 c.ca) := H.range 1 _ rfl
theorem CB.c2 (H : CB W b c) : W.cell? ⟨b, 2, none⟩ = some (.int .i64 c.ag) := H.range 2 _ rfl
theorem CB.c3 (H : CB W b c) : W.cell? ⟨b, 3, none⟩ = some (.bool c.up) := H.range 3 _ rfl
theorem CB.fr (H : CB W b c) (i : Nat) : W.frozen? ⟨b, i, none⟩ = false := by simp [World.frozen?, show W.heap[b]? = _ from H]
theorem CB.below' (H : CB W b c) (hb : Below W.heap.size W W') : CB W' b c := (hb.block b H.lt).trans H
theorem CB.alloc (H : CB W b c) (o : Obj) : CB (W.alloc o) b c := H.below' ((Below.refl _ _).alloc (Nat.le_refl _) o)
theorem CB.new (W : World) (c : Cl) : CB (W.alloc (.cells #[.int .i64 c.fl, .int .i64 c.ca, .int .i64 c.ag, .bool c.up] 35)) W.heap.size c := heap_alloc_new W _
theorem CB.kp {G : Nat → Prop} (H : CB W b c) (k : Kp G W W') (hG : ¬ G b) : CB W' b c := (k.block b H.lt hG).trans H
end
theorem load4 (w : World) (b o : Nat) (v : Value) (h : w.cell? ⟨b, o, none⟩ = some v) : (Instr.loadAt 4 (.pointer (some ⟨b, o, none⟩))).run Try.prog w = .ok v w := by simp [go_sem, h]
theorem loadS (w : World) (b o : Nat) (v : Value) (h : w.cell? ⟨b, o, none⟩ = some v) : (Instr.loadAt 30 (.pointer (some ⟨b, o, none⟩))).run Try.prog w = .ok v w := by simp [go_sem, h]
theorem loadU (w : World) (b o : Nat) (v : Value) (h : w.cell? ⟨b, o, none⟩ = some v) : (Instr.loadAt 47 (.pointer (some ⟨b, o, none⟩))).run Try.prog w = .ok v w := by simp [go_sem, h]
theorem quiet_load3 {C : World → Prop} {K : Act → Prop} {o : Oper} {a : Act} (x : Operand) (b k : Nat) {v : Value} (ho : o.op = .load 3 x) (hx : a.eval x = .pointer (some ⟨b, k, none⟩)) (hr : ∀ w, C w → w.cell? ⟨b, k, none⟩ = some v)
    (h : K (a.put o.dst v)) : o.quiet Try.prog a C K :=
  quiet_val _ (fun w hw => by unfold execOp; simp only [ho, hx, Sem.run_bind, Sem.run_pure, Result.andThen_ok, load3 w b k v (hr w hw)]) h
theorem quiet_load4 {C : World → Prop} {K : Act → Prop} {o : Oper} {a : Act} (x : Operand) (b k : Nat) {v : Value} (ho : o.op = .load 4 x) (hx : a.eval x = .pointer (some ⟨b, k, none⟩)) (hr : ∀ w, C w → w.cell? ⟨b, k, none⟩ = some v)
    (h : K (a.put o.dst v)) : o.quiet Try.prog a C K :=
  quiet_val _ (fun w hw => by unfold execOp; simp only [ho, hx, Sem.run_bind, Sem.run_pure, Result.andThen_ok, load4 w b k v (hr w hw)]) h
theorem quiet_loadS {C : World → Prop} {K : Act → Prop} {o : Oper} {a : Act} (x : Operand) (b k : Nat) {v : Value} (ho : o.op = .load 30 x) (hx : a.eval x = .pointer (some ⟨b, k, none⟩)) (hr : ∀ w, C w → w.cell? ⟨b, k, none⟩ = some v)
    (h : K (a.put o.dst v)) : o.quiet Try.prog a C K :=
  quiet_val _ (fun w hw => by unfold execOp; simp only [ho, hx, Sem.run_bind, Sem.run_pure, Result.andThen_ok, loadS w b k v (hr w hw)]) h
theorem quiet_loadU {C : World → Prop} {K : Act → Prop} {o : Oper} {a : Act} (x : Operand) (b k : Nat) {v : Value} (ho : o.op = .load 47 x) (hx : a.eval x = .pointer (some ⟨b, k, none⟩)) (hr : ∀ w, C w → w.cell? ⟨b, k, none⟩ = some v)
    (h : K (a.put o.dst v)) : o.quiet Try.prog a C K :=
  quiet_val _ (fun w hw => by unfold execOp; simp only [ho, hx, Sem.run_bind, Sem.run_pure, Result.andThen_ok, loadU w b k v (hr w hw)]) h

end Go.Proofs.Ytiihnjfknohhbad
