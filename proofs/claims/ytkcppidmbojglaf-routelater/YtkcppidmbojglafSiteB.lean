/- A site in memory: a block of thirteen cells, kept whole. -/
import Derived.Test.YtkcppidmbojglafRows
import Derived.Test.YtkcppidmbojglafSiteA
import Derived.WalkKit
import Derived.WalkSpells
import Derived.WalkLawsBesides
import Derived.RangeFuncBox
import Derived.Deep.MidRow
import Derived.Deep.Quiet
import Derived.Deep.QuietTactic
namespace Go.Proofs.Ytkcppidmbojglaf
open Go.RowKit

theorem Hid.intro' {p : Prop} (h : p) : Hid p := h
/-- the cells of a site -/
def sv (s : St) : List Value := [.int .i64 s.fl, .int .i64 s.ca, .int .i64 s.sta, .int .i64 s.ste, .int .i64 s.sto, .int .i64 s.opn, .int .i64 s.wai, .int .i64 s.clo, .int .i64 s.nud, .int .i64 s.age, .int .i64 s.sil, .int .i64 s.bud, .int .i64 s.per]
theorem sv_length (s : St) : (sv s).length = 13 := rfl
theorem info23 : (Try.prog.info? 23).map (·.size) = some 13 := by kernel_rfl

/-- a block that holds a site -/
def SB (W : World) (b : Nat) (s : St) : Prop := W.heap[b]? = some (.cells (sv s).toArray 23 (0, 0))
theorem SB.lt {W : World} {b : Nat} {s : St} (h : SB W b s) : b < W.heap.size := (Array.getElem?_eq_some_iff.1 h).1
theorem SB.cell {W : World} {b : Nat} {s : St} (h : SB W b s) (i : Nat) : W.cell? ⟨b, i, none⟩ = (sv s)[i]? := by
  simp [World.cell?, show W.heap[b]? = _ from h]
theorem SB.range {W : World} {b : Nat} {s : St} (h : SB W b s) : W.rangeAt b 0 (sv s) := fun j v hv => by
  rw [Nat.zero_add, h.cell, hv]
theorem SB.below {W W' : World} {B b : Nat} {s : St} (h : SB W b s) (hb : Below B W W') (hlt : b < B) : SB W' b s := (hb.block b hlt).trans h
theorem SB.below' {W W' : World} {b : Nat} {s : St} (h : SB W b s) (hb : Below W.heap.size W W') : SB W' b s := h.below hb h.lt
theorem SB.alloc {W : World} {b : Nat} {s : St} (h : SB W b s) (o : Obj) : SB (W.alloc o) b s := (Below.heap_alloc W o b h.lt).trans h
theorem SB.drew {W : World} {b : Nat} {s : St} (h : SB W b s) : SB W.drew b s := h
theorem SB.other {W : World} {b b' : Nat} {s : St} (h : SB W b s) (hne : b ≠ b') (i : Nat) (v : Value) : SB (W.setCell ⟨b', i, none⟩ v) b s :=
  (Below.heap_setCell W ⟨b', i, none⟩ v b hne).trans h
theorem SB.new (W : World) (s : St) : SB (W.alloc (.cells (sv s).toArray 23)) W.heap.size s := World.alloc_heap_new W _

theorem load23 (w : World) (b : Nat) (s : St) (h : w.rangeAt b 0 (sv s)) :
    (Instr.loadAt 23 (.pointer (some ⟨b, 0, none⟩))).run Try.prog w = .ok (.agg (sv s).toArray) w :=
  run_loadAt_mid (P := Try.prog) w b 0 23 (sv s) _ h Try.underlying23 rfl (by rw [sv_length]; exact info23)
theorem wpList_load23 {ops : Array Oper} {rest : List Oper} {op : Oper} {a : Act} {w : World} {Q : Exit → Act → World → Prop} (hgd : op.guard = none) (x : Operand) (ho : op.op = .load 23 x)
    (b : Nat) (s : St) (hx : a.eval x = .pointer (some ⟨b, 0, none⟩)) (hr : SB w b s)
    (h : wpList Try.prog ops Q rest (a.put op.dst (.agg (sv s).toArray)) w) : wpList Try.prog ops Q (op :: rest) a w :=
  wpList_plain hgd fun _ hK => by
    unfold Oper.wp execOp
    simp only [ho, Sem.run_bind, Sem.run_pure, Result.andThen_ok, hx, load23 w b s hr.range]
    exact hK _ _ h

theorem wpList_load23g {ops : Array Oper} {rest : List Oper} {op : Oper} {a : Act} {w : World} {Q : Exit → Act → World → Prop} (hgd : Region.wanted op (yielded ops a.tmps) = true) (x : Operand) (ho : op.op = .load 23 x)
    (b : Nat) (s : St) (hx : a.eval x = .pointer (some ⟨b, 0, none⟩)) (hr : SB w b s)
    (h : wpList Try.prog ops Q rest (a.put op.dst (.agg (sv s).toArray)) w) : wpList Try.prog ops Q (op :: rest) a w :=
  wpList_step fun _ hK => by
    rw [if_pos hgd]
    unfold Oper.wp execOp
    simp only [ho, Sem.run_bind, Sem.run_pure, Result.andThen_ok, hx, load23 w b s hr.range]
    exact hK _ _ h

/- one operation of a region that draws its order and only reads, in a class of worlds -/
theorem wpQuiet_val {P : Program} {ops : Array Oper} {C : World → Prop} {Q : Act → Prop} {rest : List Oper} {o : Oper} {a : Act} (v : Value) (hw : Region.wanted o (yielded ops a.tmps) = true)
    (hrun : ∀ w, C w → (execOp a.eval o).run P w = .ok (.value v) w) (h : wpQuiet P ops C Q rest (a.put o.dst v)) : wpQuiet P ops C Q (o :: rest) a := by
  unfold wpQuiet
  rw [if_pos hw]
  exact ⟨v, fun w hw' => by unfold Oper.quietAt; rw [hrun w hw']; exact ⟨rfl, rfl⟩, h⟩
theorem wpQuiet_call {P : Program} {ops : Array Oper} {C : World → Prop} {Q : Act → Prop} {rest : List Oper} {o : Oper} {a : Act} (f : FuncId) (args : Array Value) (v : Value) (hw : Region.wanted o (yielded ops a.tmps) = true)
    (hrun : ∀ w, C w → (execOp a.eval o).run P w = .ok (.enter f args) w) (hc : ∀ w, C w → Calls P f args w fun e w'' => e = .returned v ∧ C w'')
    (h : wpQuiet P ops C Q rest (a.put o.dst v)) : wpQuiet P ops C Q (o :: rest) a := by
  unfold wpQuiet
  rw [if_pos hw]
  exact ⟨v, fun w hw' => by unfold Oper.quietAt; rw [hrun w hw']; exact ⟨rfl, hc w hw'⟩, h⟩
theorem wpQuiet_skip {P : Program} {ops : Array Oper} {C : World → Prop} {Q : Act → Prop} {rest : List Oper} {o : Oper} {a : Act} (hw : Region.wanted o (yielded ops a.tmps) = false)
    (h : wpQuiet P ops C Q rest (a.put o.dst undef)) : wpQuiet P ops C Q (o :: rest) a := by
  unfold wpQuiet
  rw [if_neg (by rw [hw]; simp)]
  exact h
theorem wpQuiet_load23 {ops : Array Oper} {C : World → Prop} {Q : Act → Prop} {rest : List Oper} {o : Oper} {a : Act} (x : Operand) (b : Nat) (s : St) (hw : Region.wanted o (yielded ops a.tmps) = true)
    (ho : o.op = .load 23 x) (hx : a.eval x = .pointer (some ⟨b, 0, none⟩)) (hr : ∀ w, C w → SB w b s)
    (h : wpQuiet Try.prog ops C Q rest (a.put o.dst (.agg (sv s).toArray))) : wpQuiet Try.prog ops C Q (o :: rest) a :=
  wpQuiet_val _ hw (fun w hw' => by unfold execOp; simp only [ho, hx, Sem.run_bind, Sem.run_pure, Result.andThen_ok, load23 w b s (hr w hw').range]) h
theorem load3 (w : World) (b o : Nat) (v : Value) (h : w.cell? ⟨b, o, none⟩ = some v) : (Instr.loadAt 3 (.pointer (some ⟨b, o, none⟩))).run Try.prog w = .ok v w := by simp [go_sem, h]
theorem wpQuiet_load3 {ops : Array Oper} {C : World → Prop} {Q : Act → Prop} {rest : List Oper} {o : Oper} {a : Act} (x : Operand) (b k : Nat) (v : Value) (hw : Region.wanted o (yielded ops a.tmps) = true)
    (ho : o.op = .load 3 x) (hx : a.eval x = .pointer (some ⟨b, k, none⟩)) (hr : ∀ w, C w → w.cell? ⟨b, k, none⟩ = some v)
    (h : wpQuiet Try.prog ops C Q rest (a.put o.dst v)) : wpQuiet Try.prog ops C Q (o :: rest) a :=
  wpQuiet_val _ hw (fun w hw' => by unfold execOp; simp only [ho, hx, Sem.run_bind, Sem.run_pure, Result.andThen_ok, load3 w b k v (hr w hw')]) h
theorem below_class {W0 w w' : World} (h : Below W0.heap.size W0 w) (h' : Below w.heap.size w w') : Below W0.heap.size W0 w' := h.trans (h'.mono h.size)

end Go.Proofs.Ytkcppidmbojglaf
