/- Events that are handed in. -/
import Derived.Test.YthhmaaeijbofbaaDoorTlT
import Derived.ProofKit
import Derived.OpenShut
import Derived.ShutString
import Derived.ChangeArms
import Derived.LaidMore
import Derived.Lib.SmallJoins
namespace Go.Proofs.YthhmaaeijbofbaaDoor
open Go.ChangeShapes Go.WideShapes Go.ChangeAt Go.RowKit

section
variable {H : Type} {enc : TypeId × Value → H} {P : Program} {W : World} {base : Nat} {spare : Nat → Bool} {held : Bool}
/-- each field of a struct is read -/
theorem trod_field {t : TypeId} {fs : Array Field} {fuel : Nat} {cs : List Value} {x : DataW H × List MemPlace} (hs : P.underlying t = some (.struct fs)) (h : DataW.trod enc P W base spare held fuel t cs = some x) :
    ∃ n, cs.length = P.cellsOf t ∧ ∀ (i : Nat) (f : Field), fs[i]? = some f → ∃ y, DataW.trod enc P W base spare held n f.type ((cs.drop f.offset).take (P.cellsOf f.type)) = some y := by
  obtain ⟨xs, n, _, _, hl, hlen, hf⟩ := DataW.trod_struct hs h
  refine ⟨n, hl, fun i f hi => ?_⟩
  have hlt : i < xs.length := by rw [hlen]; exact (Array.getElem?_eq_some_iff.1 hi).1
  exact ⟨xs[i], by rw [hf i f hi, List.getElem?_eq_getElem hlt]⟩
end
theorem take_one {cs : List Value} {k : Nat} {v : Value} (h : (cs.drop k).take 1 = [v]) : cs[k]? = some v := by
  have : ((cs.drop k).take 1)[0]? = some v := by rw [h]; rfl
  simpa using this
theorem take_in {cs : List Value} {k m j : Nat} {v : Value} (h : ((cs.drop k).take m)[j]? = some v) : cs[k + j]? = some v := by
  rw [List.getElem?_take] at h
  split at h
  · rwa [List.getElem?_drop] at h
  · cases h
theorem list8 {cs : List Value} {x0 x1 x2 x3 x4 x5 x6 x7 : Value} (hl : cs.length = 8) (h0 : cs[0]? = some x0) (h1 : cs[1]? = some x1) (h2 : cs[2]? = some x2) (h3 : cs[3]? = some x3) (h4 : cs[4]? = some x4) (h5 : cs[5]? = some x5) (h6 : cs[6]? = some x6) (h7 : cs[7]? = some x7) : cs = [x0, x1, x2, x3, x4, x5, x6, x7] := by
  apply List.ext_getElem?
  intro i
  by_cases hi : i < 8
  · have : i = 0 ∨ i = 1 ∨ i = 2 ∨ i = 3 ∨ i = 4 ∨ i = 5 ∨ i = 6 ∨ i = 7 := by omega
    rcases this with rfl | rfl | rfl | rfl | rfl | rfl | rfl | rfl
    all_goals (first | exact h0 | exact h1 | exact h2 | exact h3 | exact h4 | exact h5 | exact h6 | exact h7)
  · rw [List.getElem?_eq_none (by omega), List.getElem?_eq_none (by simp; omega)]

theorem Tryd.cells3e : Tryd.prog.cellsOf 3 = 1 := by kernel_rfl
theorem Tryd.cells4e : Tryd.prog.cellsOf 4 = 1 := by kernel_rfl
theorem Tryd.cellsEe : Tryd.prog.cellsOf 25 = 8 := by kernel_rfl
section
variable {H : Type} {enc : TypeId × Value → H} {W : World} {base : Nat} {spare : Nat → Bool} {held : Bool}
theorem in64 {z : Int} (h : (Lit.int .i64 z).wf = true) : TM.In64 z := by
  have h2 := h
  simp [Lit.wf, IntKind.min, IntKind.max, IntKind.bits, IntKind.signed] at h2
  exact ⟨by omega, by omega⟩
theorem intw_at {n k o : Nat} {cs : List Value} {y : DataW H × List MemPlace} (h : DataW.trod enc Tryd.prog W base spare held n k ((cs.drop o).take (Tryd.prog.cellsOf k)) = some y) (hk : k = 3) : ∃ z : Int, cs[o]? = some (.int .i64 z) ∧ TM.In64 z := by
  subst hk
  rw [Tryd.cells3e] at h
  obtain ⟨z, e, _, hw⟩ := DataW.trod_int Tryd.underlying3 h
  exact ⟨z, take_one e, in64 hw⟩
theorem boolw_at {n k o : Nat} {cs : List Value} {y : DataW H × List MemPlace} (h : DataW.trod enc Tryd.prog W base spare held n k ((cs.drop o).take (Tryd.prog.cellsOf k)) = some y) (hk : k = 4) : ∃ b : Bool, cs[o]? = some (.bool b) := by
  subst hk
  rw [Tryd.cells4e] at h
  obtain ⟨b, e, _⟩ := DataW.trod_bool Tryd.underlying4 h
  exact ⟨b, take_one e⟩
theorem event_open {r : Reach} {b0 : Nat} {v : Value} {d : DataW H} {p : List MemPlace} (hv : Value.okWide Tryd.prog W r b0 25 v) (h : DataW.Trod enc Tryd.prog W base spare held 25 v d p) :
    ∃ e : TM.Ev, v = .agg #[.int .i64 e.ki, .int .i64 e.a, .int .i64 e.b, .bool e.on, .int .i64 e.fl, .int .i64 e.ca, .int .i64 e.ag, .bool e.up] ∧ TM.Ok e := by
  obtain ⟨cs, rfl, _⟩ := okWide_struct Tryd.underlying25 hv
  obtain ⟨fuel, hf⟩ := h
  obtain ⟨n, hl, key⟩ := trod_field Tryd.underlying25 hf
  obtain ⟨_, k0⟩ := key 0 _ rfl
  obtain ⟨_, k1⟩ := key 1 _ rfl
  obtain ⟨_, k2⟩ := key 2 _ rfl
  obtain ⟨_, k3⟩ := key 3 _ rfl
  obtain ⟨_, k4⟩ := key 4 _ rfl
  obtain ⟨z0, e0, _⟩ := intw_at k0 rfl
  obtain ⟨z1, e1, w1⟩ := intw_at k1 rfl
  obtain ⟨z2, e2, w2⟩ := intw_at k2 rfl
  obtain ⟨z3, e3⟩ := boolw_at k3 rfl
  obtain ⟨_, _, kd⟩ := trod_field Tryd.underlying23 k4
  obtain ⟨_, d0⟩ := kd 0 _ rfl
  obtain ⟨_, d1⟩ := kd 1 _ rfl
  obtain ⟨_, d2⟩ := kd 2 _ rfl
  obtain ⟨_, d3⟩ := kd 3 _ rfl
  obtain ⟨z4, e4, w4⟩ := intw_at d0 rfl
  obtain ⟨z5, e5, w5⟩ := intw_at d1 rfl
  obtain ⟨z6, e6, _⟩ := intw_at d2 rfl
  obtain ⟨z7, e7⟩ := boolw_at d3 rfl
  have e := list8 (hl.trans Tryd.cellsEe) e0 e1 e2 e3 (take_in e4) (take_in e5) (take_in e6) (take_in e7)
  refine ⟨⟨z0, z1, z2, z3, z4, z5, z6, z7⟩, ?_, ⟨w1, w2, w4, w5⟩⟩
  congr 1
  apply Array.ext'
  exact e
end

end Go.Proofs.YthhmaaeijbofbaaDoor
