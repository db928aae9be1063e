/- Arrays of a truth for each floor: a block of 64 cells, kept whole. -/
import Derived.Test.YtklekpkchpnmiaaFloorsSpeaks
import Derived.Deep.MidRow
import Derived.Deep.Quiet
import Derived.Deep.QuietTactic
namespace Go.Proofs.Ytklekpkchpnmiaa
open Go.RowKit

/-- the cells of truths -/
def bv (bs : List Bool) : List Value := bs.map fun b => .bool b
theorem bv_length (bs : List Bool) : (bv bs).length = bs.length := by simp [bv]
theorem bv_get (bs : List Bool) (i : Nat) (h : i < bs.length) : (bv bs)[i]? = some (.bool (bs[i]?.getD false)) := by simp [bv, h]
theorem bv_set (bs : List Bool) (i : Nat) (v : Bool) : (bv bs).set i (.bool v) = bv (bs.set i v) := by simp [bv, List.map_set]
theorem bv_one (bs : List Bool) : (bv bs).toArray.all (·.oneCell') = true :=
  all_oneCell_toArray (fun v hv => by
    obtain ⟨x, _, rfl⟩ := List.mem_map.1 hv
    rfl)
/-- 64 times false -/
def zb : List Bool := List.replicate 64 false


theorem zero31 : (zeroValue 31).run Try.prog (default : World) = .ok (.agg (bv zb).toArray) default := by kernel_rfl
theorem info31 : (Try.prog.info? 31).map (·.size) = some 64 := by kernel_rfl
theorem zval31 (w : World) : (zeroValue 31).run Try.prog w = .ok (.agg (bv zb).toArray) w := by kernel_rfl
theorem alloc31 (w : World) (old : Value) : (Instr.alloc 31 true old).run Try.prog w = .ok (.pointer (some ⟨w.heap.size, 0, none⟩)) (w.alloc (.cells (bv zb).toArray 31)) := by
  kernel_rfl
theorem build31 (w : World) : (Instr.build 31 #[]).run Try.prog w = .ok (.agg (bv zb).toArray) w := run_build w 31 #[] (bv zb).toArray (by kernel_rfl)

/-- a block of truths -/
def ArrB (W : World) (b : Nat) (bs : List Bool) : Prop := W.heap[b]? = some (.cells (bv bs).toArray 31 (0, 0))
theorem ArrB.lt {W : World} {b : Nat} {bs : List Bool} (h : ArrB W b bs) : b < W.heap.size := (Array.getElem?_eq_some_iff.1 h).1
theorem ArrB.cell {W : World} {b : Nat} {bs : List Bool} (h : ArrB W b bs) (i : Nat) (hi : i < bs.length) : W.cell? ⟨b, i, none⟩ = some (.bool (bs[i]?.getD false)) := by
  have e : W.cell? ⟨b, i, none⟩ = (bv bs)[i]? := by simp [World.cell?, show W.heap[b]? = _ from h]
  rw [e, bv_get bs i hi]
theorem ArrB.frozen {W : World} {b : Nat} {bs : List Bool} (h : ArrB W b bs) (i : Nat) : W.frozen? ⟨b, i, none⟩ = false := by
  simp [World.frozen?, show W.heap[b]? = _ from h]
theorem ArrB.range {W : World} {b : Nat} {bs : List Bool} (h : ArrB W b bs) : W.rangeAt b 0 (bv bs) := fun j v hv => by
  have e : W.cell? ⟨b, 0 + j, none⟩ = (bv bs)[j]? := by simp [World.cell?, show W.heap[b]? = _ from h]
  rw [e, hv]
theorem ArrB.there {W : World} {b : Nat} {bs : List Bool} (h : ArrB W b bs) : W.there b 0 bs.length := fun j hj => by
  rw [Nat.zero_add, h.cell j hj]; exact ⟨rfl, h.frozen j⟩
theorem ArrB.below {W W' : World} {B b : Nat} {bs : List Bool} (h : ArrB W b bs) (hb : Below B W W') (hlt : b < B) : ArrB W' b bs := (hb.block b hlt).trans h
theorem ArrB.alloc {W : World} {b : Nat} {bs : List Bool} (h : ArrB W b bs) (o : Obj) : ArrB (W.alloc o) b bs := (Below.heap_alloc W o b h.lt).trans h
theorem ArrB.drew {W : World} {b : Nat} {bs : List Bool} (h : ArrB W b bs) : ArrB W.drew b bs := h
theorem ArrB.set {W : World} {b : Nat} {bs : List Bool} (h : ArrB W b bs) (i : Nat) (v : Bool) : ArrB (W.setCell ⟨b, i, none⟩ (.bool v)) b (bs.set i v) := by
  unfold ArrB at *
  simp only [World.setCell, Array.getElem?_modify, if_true, h]
  simp [← bv_set]
theorem ArrB.other {W : World} {b b' : Nat} {bs : List Bool} (h : ArrB W b bs) (hne : b ≠ b') (i : Nat) (v : Value) : ArrB (W.setCell ⟨b', i, none⟩ v) b bs :=
  (Below.heap_setCell W ⟨b', i, none⟩ v b hne).trans h
theorem ArrB.new (W : World) : ArrB (W.alloc (.cells (bv zb).toArray 31)) W.heap.size zb := World.alloc_heap_new W _
/-- a whole array is stored -/
theorem setCells_block (b : Nat) : ∀ (vs : List Value) (o : Nat) (W : World) (C : Array Value) (t : TypeId) (fr : Nat × Nat), W.heap[b]? = some (.cells C t fr) →
    (W.setCells b o vs).heap[b]? = some (.cells ((vs.zipIdx o).foldl (fun C p => C.setIfInBounds p.2 p.1) C) t fr)
  | [], _, _, _, _, _, h => h
  | v :: vs, o, W, C, t, fr, h => by
    have h1 : (W.setCell ⟨b, o, none⟩ v).heap[b]? = some (.cells (C.setIfInBounds o v) t fr) := by
      simp only [World.setCell, Array.getElem?_modify, if_true, h]; rfl
    exact setCells_block b vs (o + 1) _ _ t fr h1
theorem fold_set : ∀ (vs : List Value) (o : Nat) (C : Array Value) (j : Nat), o + vs.length ≤ C.size →
    ((vs.zipIdx o).foldl (fun C p => C.setIfInBounds p.2 p.1) C)[j]? = if o ≤ j ∧ j < o + vs.length then vs[j - o]? else C[j]?
  | [], o, C, j, _ => by rw [if_neg (by simp)]; rfl
  | v :: vs, o, C, j, h => by
    simp only [List.zipIdx_cons, List.foldl_cons, List.length_cons] at h ⊢
    rw [fold_set vs (o + 1) _ j (by simp; omega)]
    by_cases h1 : o + 1 ≤ j ∧ j < o + 1 + vs.length
    · rw [if_pos h1, if_pos (by omega), show j - o = (j - (o + 1)) + 1 by omega, List.getElem?_cons_succ]
    · rw [if_neg h1]
      by_cases h2 : o = j
      · subst h2
        rw [if_pos (by omega), Array.getElem?_setIfInBounds_self_of_lt (by omega)]; simp
      · rw [if_neg (by omega), Array.getElem?_setIfInBounds_ne (by omega)]
theorem ArrB.store {W : World} {b : Nat} {bs cs : List Bool} (h : ArrB W b bs) (hl : cs.length = bs.length) : ArrB (W.setCells b 0 (bv cs)) b cs := by
  have := setCells_block b (bv cs) 0 W _ _ _ h
  unfold ArrB
  rw [this]
  congr 2
  apply Array.ext_getElem?
  intro j
  rw [fold_set _ 0 _ j (by simp [bv_length, hl])]
  by_cases hj : j < cs.length
  · rw [if_pos (by simp [bv_length]; omega)]; simp
  · rw [if_neg (by simp [bv_length]; omega)]
    rw [List.getElem?_toArray, List.getElem?_toArray, List.getElem?_eq_none (by rw [bv_length]; omega), List.getElem?_eq_none (by rw [bv_length]; omega)]
theorem setCells_other (b : Nat) : ∀ (vs : List Value) (o : Nat) (W : World) (k : Nat), k ≠ b → (W.setCells b o vs).heap[k]? = W.heap[k]?
  | [], _, _, _, _ => rfl
  | v :: vs, o, W, k, h => (setCells_other b vs (o + 1) _ k h).trans (Below.heap_setCell W ⟨b, o, none⟩ v k h)
theorem below_setCells {B : Nat} {a : World} (b : Nat) (hb : B ≤ b) : ∀ (vs : List Value) (o : Nat) (W : World), Below B a W → Below B a (W.setCells b o vs)
  | [], _, _, h => h
  | v :: vs, o, _, h => below_setCells b hb vs (o + 1) _ (h.setCell (p := ⟨b, o, none⟩) hb v)
theorem size_setCells (b : Nat) : ∀ (vs : List Value) (o : Nat) (W : World), (W.setCells b o vs).heap.size = W.heap.size
  | [], _, _ => rfl
  | v :: vs, o, W => (size_setCells b vs (o + 1) _).trans (by simp [World.setCell])

theorem store31 (w : World) (b : Nat) (cs : List Bool) (ht : w.there b 0 64) (hl : cs.length = 64) :
    (Instr.storeAt 31 (.pointer (some ⟨b, 0, none⟩)) (.agg (bv cs).toArray)).run Try.prog w = .ok () (w.setCells b 0 (bv cs)) := by
  have hs : (bv cs).toArray.size = 64 := by simp [bv_length, hl]
  have := run_storeAt_mid (P := Try.prog) w b 0 31 (bv cs).toArray (by rw [hs]; exact ht) (by rw [hs]; exact info31) (bv_one cs)
  simpa using this
theorem load31 (w : World) (b : Nat) (bs : List Bool) (h : w.rangeAt b 0 (bv bs)) (hl : bs.length = 64) :
    (Instr.loadAt 31 (.pointer (some ⟨b, 0, none⟩))).run Try.prog w = .ok (.agg (bv bs).toArray) w :=
  run_loadAt_mid (P := Try.prog) w b 0 31 (bv bs) (.array 64 4) h Try.underlying31 rfl (by rw [bv_length, hl]; exact info31)

/- the same, where the walk meets them -/
theorem wpList_alloc31 {ops : Array Oper} {rest : List Oper} {op : Oper} {a : Act} {w : World} {Q : Exit → Act → World → Prop} (n : Nat) (hgd : op.guard = none) (ho : op.op = .alloc 31) (hn : w.heap.size = n)
    (h : wpList Try.prog ops Q rest (a.put op.dst (.pointer (some ⟨n, 0, none⟩))) (w.alloc (.cells (bv zb).toArray 31))) : wpList Try.prog ops Q (op :: rest) a w :=
  wpList_plain hgd fun _ hK => by
    subst hn
    unfold Oper.wp execOp
    simp only [ho, Sem.run_bind, Sem.run_pure, Result.andThen_ok, alloc31]
    exact hK _ _ h
theorem wpList_build31 {ops : Array Oper} {rest : List Oper} {op : Oper} {a : Act} {w : World} {Q : Exit → Act → World → Prop} (hgd : op.guard = none) (ho : op.op = .build 31 #[])
    (h : wpList Try.prog ops Q rest (a.put op.dst (.agg (bv zb).toArray)) w) : wpList Try.prog ops Q (op :: rest) a w :=
  wpList_plain hgd fun _ hK => by
    unfold Oper.wp execOp
    simp only [ho, Sem.run_bind, Sem.run_pure, Result.andThen_ok, Array.map_empty, build31]
    exact hK _ _ h
theorem wpList_store31 {ops : Array Oper} {rest : List Oper} {op : Oper} {a : Act} {w : World} {Q : Exit → Act → World → Prop} (hgd : op.guard = none) (x y : Operand) (ho : op.op = .store 31 x y)
    (b : Nat) (cs : List Bool) (hx : a.eval x = .pointer (some ⟨b, 0, none⟩)) (hy : a.eval y = .agg (bv cs).toArray) (ht : w.there b 0 64) (hl : cs.length = 64)
    (h : wpList Try.prog ops Q rest (a.put op.dst undef) (w.setCells b 0 (bv cs))) : wpList Try.prog ops Q (op :: rest) a w :=
  wpList_plain hgd fun _ hK => by
    unfold Oper.wp execOp
    simp only [ho, Sem.run_bind, Sem.run_pure, Result.andThen_ok, hx, hy, store31 w b cs ht hl]
    exact hK _ _ h
theorem wpList_load31 {ops : Array Oper} {rest : List Oper} {op : Oper} {a : Act} {w : World} {Q : Exit → Act → World → Prop} (hgd : op.guard = none) (x : Operand) (ho : op.op = .load 31 x)
    (b : Nat) (bs : List Bool) (hx : a.eval x = .pointer (some ⟨b, 0, none⟩)) (hr : w.rangeAt b 0 (bv bs)) (hl : bs.length = 64)
    (h : wpList Try.prog ops Q rest (a.put op.dst (.agg (bv bs).toArray)) w) : wpList Try.prog ops Q (op :: rest) a w :=
  wpList_plain hgd fun _ hK => by
    unfold Oper.wp execOp
    simp only [ho, Sem.run_bind, Sem.run_pure, Result.andThen_ok, hx, load31 w b bs hr hl]
    exact hK _ _ h

/- one operation of a region that draws its order and only reads, in a class of worlds -/
theorem wpQuiet_val {P : Program} {ops : Array Oper} {C : World → Prop} {Q : Act → Prop} {rest : List Oper} {o : Oper} {a : Act} (v : Value) (hw : Region.wanted o (yielded ops a.tmps) = true)
    (hrun : ∀ w, C w → (execOp a.eval o).run P w = .ok (.value v) w) (h : wpQuiet P ops C Q rest (a.put o.dst v)) : wpQuiet P ops C Q (o :: rest) a := by
  unfold wpQuiet
  rw [if_pos hw]
  exact ⟨v, fun w hw' => by unfold Oper.quietAt; rw [hrun w hw']; exact ⟨rfl, rfl⟩, h⟩
theorem wpQuiet_call {P : Program} {ops : Array Oper} {C : World → Prop} {Q : Act → Prop} {rest : List Oper} {o : Oper} {a : Act} (f : FuncId) (args : Array Value) (v : Value) (hw : Region.wanted o (yielded ops a.tmps) = true)
    (hrun : ∀ w, C w → (execOp a.eval o).run P w = .ok (.enter f args) w) (hc : ∀ w, C w → Calls P f args w fun e w'' => e = .returned v ∧ C w'')
    (h : wpQuiet P ops C Q rest (a.put o.dst v)) : wpQuiet P ops C Q (o :: rest) a := by
  unfold wpQuiet
  rw [if_pos hw]
  exact ⟨v, fun w hw' => by unfold Oper.quietAt; rw [hrun w hw']; exact ⟨rfl, hc w hw'⟩, h⟩
theorem wpQuiet_skip {P : Program} {ops : Array Oper} {C : World → Prop} {Q : Act → Prop} {rest : List Oper} {o : Oper} {a : Act} (hw : Region.wanted o (yielded ops a.tmps) = false)
    (h : wpQuiet P ops C Q rest (a.put o.dst undef)) : wpQuiet P ops C Q (o :: rest) a := by
  unfold wpQuiet
  rw [if_neg (by rw [hw]; simp)]
  exact h
theorem wpQuiet_load31 {ops : Array Oper} {C : World → Prop} {Q : Act → Prop} {rest : List Oper} {o : Oper} {a : Act} (x : Operand) (b : Nat) (bs : List Bool) (hw : Region.wanted o (yielded ops a.tmps) = true)
    (ho : o.op = .load 31 x) (hx : a.eval x = .pointer (some ⟨b, 0, none⟩)) (hr : ∀ w, C w → w.rangeAt b 0 (bv bs)) (hl : bs.length = 64)
    (h : wpQuiet Try.prog ops C Q rest (a.put o.dst (.agg (bv bs).toArray))) : wpQuiet Try.prog ops C Q (o :: rest) a :=
  wpQuiet_val _ hw (fun w hw' => by unfold execOp; simp only [ho, hx, Sem.run_bind, Sem.run_pure, Result.andThen_ok, load31 w b bs (hr w hw') hl]) h
theorem below_class {W0 w w' : World} (h : Below W0.heap.size W0 w) (h' : Below w.heap.size w w') : Below W0.heap.size W0 w' := h.trans (h'.mono h.size)

end Go.Proofs.Ytklekpkchpnmiaa
