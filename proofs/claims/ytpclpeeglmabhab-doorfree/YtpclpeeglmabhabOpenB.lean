/- Slices of bools that are handed in. -/
import Derived.Test.YtpclpeeglmabhabRows
import Derived.WalkKit
import Derived.ProofKit
import Derived.OpenShut
import Derived.ShutString
import Derived.ChangeArms
import Derived.LaidMore
namespace Go.Proofs.Ytpclpeeglmabhab
open Go.ChangeShapes Go.WideShapes Go.ChangeAt Go.RowKit

theorem lt_block {w : World} {b o : Nat} {v : Value} (h : w.cell? ⟨b, o, none⟩ = some v) : b < w.heap.size := by
  apply Classical.byContradiction
  intro hn
  have : w.heap[b]? = none := Array.getElem?_eq_none (by omega)
  simp [World.cell?, this] at h

section
variable {H : Type} {enc : TypeId × Value → H} {P : Program} {w : World} {base : Nat} {sp : Nat → Bool} {held : Bool}
/-- what a slice of bools reads as: it is empty, or its elements are bools, each in its cell -/
theorem open_bools {t e : TypeId} {fuel : Nat} {cs : List Value} {x : DataW H × List MemPlace} (ht : P.underlying t = some (.slice e)) (he : P.underlying e = some .bool) (hc : P.cellsOf e = 1)
    (h : DataW.trod enc P w base sp held fuel t cs = some x) :
    cs = [.slice none 0 0] ∨ ∃ (a : Addr) (len cap : Nat), cs = [.slice (some a) len cap] ∧ ∀ i, i < len → ∃ v, w.cell? (a.add i) = some (.bool v) := by
  rcases DataW.trod_slice ht h with ⟨h0, _⟩ | ⟨a, len, cap, elems, rest, n, _, hcs, hx, _, hl, _, hlen, hel, _⟩
  · exact .inl h0
  · refine .inr ⟨a, len, cap, hcs, fun i hi => ?_⟩
    have hE := hel i hi
    rw [hc, Nat.mul_one] at hE
    obtain ⟨y, hy⟩ : ∃ y, elems[i]? = some y := ⟨_, List.getElem?_eq_getElem (by omega)⟩
    rw [hy] at hE
    simp only [Option.bind_eq_some_iff] at hE
    obtain ⟨c1, hc1, hy1⟩ := hE
    obtain ⟨b, rfl, _⟩ := DataW.trod_bool he hy1
    have e0 : (a.add i).add 0 = a.add i := by simp [Addr.add]
    refine ⟨b, ?_⟩
    unfold World.cells? at hc1
    split at hc1
    · simp only [List.range_succ, List.range_zero, List.nil_append, List.mapM_cons, List.mapM_nil, e0] at hc1
      cases hcc : w.cell? (a.add i) with
      | none => simp [hcc] at hc1
      | some c => simp [hcc] at hc1; rw [hc1]
    · cases hc1
/-- and stays so where nothing that was there is written -/
theorem bools_stay {a : Addr} {len : Nat} (h : ∀ i, i < len → ∃ v, w.cell? (a.add i) = some (.bool v)) (hp : 0 < len) :
    ∃ b off, a = ⟨b, off, none⟩ ∧ ∀ w', Below w.heap.size w w' → ∀ i, i < len → ∃ v, w'.cell? ⟨b, off + i, none⟩ = some (.bool v) := by
  obtain ⟨b, off, spot⟩ := a
  obtain ⟨v0, h0⟩ := h 0 hp
  have hspot : spot = none := by simpa [Addr.add] using World.cell?_spot h0
  subst hspot
  have hb : b < w.heap.size := by
    have e : (⟨b, off, none⟩ : Addr).add 0 = ⟨b, off, none⟩ := by simp [Addr.add]
    rw [e] at h0
    exact lt_block h0
  refine ⟨b, off, rfl, fun w' hw i hi => ?_⟩
  obtain ⟨v, hv⟩ := h i hi
  rw [Go.WideShapes.add_plain] at hv
  exact ⟨v, (hw.cell (p := ⟨b, off + i, none⟩) hb).trans hv⟩
end

end Go.Proofs.Ytpclpeeglmabhab
