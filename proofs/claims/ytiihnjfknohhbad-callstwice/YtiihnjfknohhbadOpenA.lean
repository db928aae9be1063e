/- Calls, and slices of acts, that are handed in: what the values are. -/
import Derived.Test.YtiihnjfknohhbadCallM
import Derived.Test.YtiihnjfknohhbadRows
import Derived.WalkKit
import Derived.ProofKit
import Derived.OpenShut
import Derived.ShutString
import Derived.ChangeArms
import Derived.LaidMore
import Derived.Lib.SmallJoins
namespace Go.Proofs.Ytiihnjfknohhbad
open Go.ChangeShapes Go.WideShapes Go.ChangeAt Go.RowKit

section
variable {H : Type} {enc : TypeId × Value → H} {P : Program} {W : World} {base : Nat} {spare : Nat → Bool} {held : Bool}
/-- each field of a struct is read -/
theorem trod_field {t : TypeId} {fs : Array Field} {fuel : Nat} {cs : List Value} {x : DataW H × List MemPlace} (hs : P.underlying t = some (.struct fs)) (h : DataW.trod enc P W base spare held fuel t cs = some x) :
    ∃ n, cs.length = P.cellsOf t ∧ ∀ (i : Nat) (f : Field), fs[i]? = some f → ∃ y, DataW.trod enc P W base spare held n f.type ((cs.drop f.offset).take (P.cellsOf f.type)) = some y := by
  obtain ⟨xs, n, _, _, hl, hlen, hf⟩ := DataW.trod_struct hs h
  refine ⟨n, hl, fun i f hi => ?_⟩
  have hlt : i < xs.length := by rw [hlen]; exact (Array.getElem?_eq_some_iff.1 hi).1
  exact ⟨xs[i], by rw [hf i f hi, List.getElem?_eq_getElem hlt]⟩
end
theorem take_one {cs : List Value} {k : Nat} {v : Value} (h : (cs.drop k).take 1 = [v]) : cs[k]? = some v := by
  have : ((cs.drop k).take 1)[0]? = some v := by rw [h]; rfl
  simpa using this
theorem take_in {cs : List Value} {k m j : Nat} {v : Value} (h : ((cs.drop k).take m)[j]? = some v) : cs[k + j]? = some v := by
  rw [List.getElem?_take] at h
  split at h
  · rwa [List.getElem?_drop] at h
  · cases h
theorem list4 {cs : List Value} {x0 x1 x2 x3 : Value} (hl : cs.length = 4) (h0 : cs[0]? = some x0) (h1 : cs[1]? = some x1) (h2 : cs[2]? = some x2) (h3 : cs[3]? = some x3) : cs = [x0, x1, x2, x3] := by
  apply List.ext_getElem?
  intro i
  by_cases hi : i < 4
  · have : i = 0 ∨ i = 1 ∨ i = 2 ∨ i = 3 := by omega
    rcases this with rfl | rfl | rfl | rfl
    all_goals (first | exact h0 | exact h1 | exact h2 | exact h3)
  · rw [List.getElem?_eq_none (by omega), List.getElem?_eq_none (by simp; omega)]

theorem Try.cells3c : Try.prog.cellsOf 3 = 1 := by kernel_rfl
theorem Try.cells4c : Try.prog.cellsOf 4 = 1 := by kernel_rfl
theorem Try.cellsKc : Try.prog.cellsOf 35 = 4 := by kernel_rfl
section
variable {H : Type} {enc : TypeId × Value → H} {W : World} {base : Nat} {spare : Nat → Bool} {held : Bool}
theorem int_at {n k o : Nat} {cs : List Value} {y : DataW H × List MemPlace} (h : DataW.trod enc Try.prog W base spare held n k ((cs.drop o).take (Try.prog.cellsOf k)) = some y) (hk : k = 3) : ∃ z : Int, cs[o]? = some (.int .i64 z) := by
  subst hk
  rw [Try.cells3c] at h
  obtain ⟨z, e, _, _⟩ := DataW.trod_int Try.underlying3 h
  exact ⟨z, take_one e⟩
theorem bool_at {n k o : Nat} {cs : List Value} {y : DataW H × List MemPlace} (h : DataW.trod enc Try.prog W base spare held n k ((cs.drop o).take (Try.prog.cellsOf k)) = some y) (hk : k = 4) : ∃ b : Bool, cs[o]? = some (.bool b) := by
  subst hk
  rw [Try.cells4c] at h
  obtain ⟨b, e, _⟩ := DataW.trod_bool Try.underlying4 h
  exact ⟨b, take_one e⟩
theorem call_open {r : Reach} {b0 : Nat} {v : Value} {d : DataW H} {p : List MemPlace} (hv : Value.okWide Try.prog W r b0 35 v) (h : DataW.Trod enc Try.prog W base spare held 35 v d p) :
    ∃ c : Cl, v = .agg #[.int .i64 c.fl, .int .i64 c.ca, .int .i64 c.ag, .bool c.up] := by
  obtain ⟨cs, rfl, _⟩ := okWide_struct Try.underlying35 hv
  obtain ⟨fuel, hf⟩ := h
  obtain ⟨n, hl, key⟩ := trod_field Try.underlying35 hf
  obtain ⟨_, k0⟩ := key 0 _ rfl
  obtain ⟨_, k1⟩ := key 1 _ rfl
  obtain ⟨_, k2⟩ := key 2 _ rfl
  obtain ⟨_, k3⟩ := key 3 _ rfl
  obtain ⟨z0, e0⟩ := int_at k0 rfl
  obtain ⟨z1, e1⟩ := int_at k1 rfl
  obtain ⟨z2, e2⟩ := int_at k2 rfl
  obtain ⟨z3, e3⟩ := bool_at k3 rfl
  have e := list4 (hl.trans Try.cellsKc) e0 e1 e2 e3
  refine ⟨⟨z0, z1, z2, z3⟩, ?_⟩
  congr 1
  apply Array.ext'
  exact e
end

end Go.Proofs.Ytiihnjfknohhbad
