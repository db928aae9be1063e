/- A plan on its way, in memory. -/
import Derived.Test.YtjpkekmccbpclajPlT
import Derived.Laws.MakeOwn
namespace Go.Proofs.Ytjpkekmccbpclaj
open Go.RowKit

/-- the cells of marks -/
def bv (st : List Bool) : List Value := st.map Value.bool
theorem bv_length (st : List Bool) : (bv st).length = st.length := by unfold bv; rw [List.length_map]
theorem bv_some {st : List Bool} {i : Nat} {x : Bool} (h : st[i]? = some x) : (bv st)[i]? = some (.bool x) := by
  unfold bv; rw [List.getElem?_map, h]; rfl
theorem bv_set (st : List Bool) (i : Nat) (x : Bool) : (bv st).set i (.bool x) = bv (st.set i x) := by unfold bv; rw [List.map_set]
/-- a store into a block that is known whole -/
theorem blk_set {W : World} {b : Nat} {C : List Value} {t : TypeId} (h : W.heap[b]? = some (.cells C.toArray t (0, 0))) (i : Nat) (v : Value) : (W.setCell ⟨b, i, none⟩ v).heap[b]? = some (.cells (C.set i v).toArray t (0, 0)) := by
  simp only [World.setCell, Array.getElem?_modify, if_true, h]; simp
theorem blk_cell {W : World} {b : Nat} {C : List Value} {t : TypeId} (h : W.heap[b]? = some (.cells C.toArray t (0, 0))) (i : Nat) : W.cell? ⟨b, i, none⟩ = C[i]? := by
  simp [World.cell?, h]
theorem blk_fr {W : World} {b : Nat} {C : List Value} {t : TypeId} (h : W.heap[b]? = some (.cells C.toArray t (0, 0))) (i : Nat) : W.frozen? ⟨b, i, none⟩ = false := by
  simp [World.frozen?, h]

/-- the masks of wants -/
structure Mk (ws : List (Int × Int)) (ms : List Nat) : Prop where
  len : ms.length = ws.length
  eq : ∀ (i : Nat) y, ws[i]? = some y → ∃ m, ms[i]? = some m ∧ y.2 = (m : Int)

end Go.Proofs.Ytjpkekmccbpclaj
