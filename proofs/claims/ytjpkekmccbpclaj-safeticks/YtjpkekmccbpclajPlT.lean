/- Which snapshots are right, as the program tells it. -/
import Derived.Test.YtjpkekmccbpclajPlS
import Derived.Laws.EntriesVeiled
namespace Go.Proofs.Ytjpkekmccbpclaj
open Go.RowKit

/-- what a predicate on pairs does: it answers, and memory only grows -/
def Pr (g : Nat) (lb : Array Value) (p : Int × Int → Bool) (w : World) : Prop :=
  ∀ (W : World) (x : Int × Int), Below w.heap.size w W → Calls Try.prog g (#[.agg #[.int .i64 x.1, .int .i64 x.2]] ++ lb) W fun e w' => e = .returned (.bool (p x)) ∧ Below W.heap.size W w'
theorem all_take {α : Type} {p : α → Bool} {l : List α} {k : Nat} {x : α} (hk : l[k]? = some x) : (l.take (k + 1)).all p = ((l.take k).all p && p x) := by
  rw [List.take_add_one, hk, List.all_append]; simp
theorem all_not {α : Type} {p : α → Bool} {l : List α} {k : Nat} {x : α} (hk : l[k]? = some x) (hx : p x = false) : l.all p = false := by
  cases h : l.all p
  · rfl
  · rw [List.all_eq_true.1 h x (List.mem_of_getElem? hk)] at hx; cases hx


theorem ca_nat {s : St} (r : SM.Rt s) : ∃ n : Nat, n ≤ 8 ∧ 1 ≤ n ∧ s.ca = (n : Int) := ⟨s.ca.toNat, by have := r.ca2; omega, by have := r.ca1; omega, by have := r.ca1; omega⟩

end Go.Proofs.Ytjpkekmccbpclaj
