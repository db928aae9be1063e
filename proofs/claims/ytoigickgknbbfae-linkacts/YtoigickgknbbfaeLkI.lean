/- Slices of acts that are handed in: what they hold. -/
import Derived.Test.YtoigickgknbbfaeLkA
import Derived.WalkKit
import Derived.ProofKit
import Derived.OpenShut
import Derived.ShutString
import Derived.ChangeArms
import Derived.LaidMore
import Derived.Lib.SmallJoins
namespace Go.Proofs.Ytoigickgknbbfae
open Go.ChangeShapes Go.WideShapes Go.ChangeAt Go.RowKit

section
variable {H : Type} {enc : TypeId × Value → H} {P : Program} {W : World} {base : Nat} {spare : Nat → Bool} {held : Bool}
/-- each field of a struct is read -/
theorem trod_field {t : TypeId} {fs : Array Field} {fuel : Nat} {cs : List Value} {x : DataW H × List MemPlace} (hs : P.underlying t = some (.struct fs)) (h : DataW.trod enc P W base spare held fuel t cs = some x) :
    ∃ n, cs.length = P.cellsOf t ∧ ∀ (i : Nat) (f : Field), fs[i]? = some f → ∃ y, DataW.trod enc P W base spare held n f.type ((cs.drop f.offset).take (P.cellsOf f.type)) = some y := by
  obtain ⟨xs, n, _, _, hl, hlen, hf⟩ := DataW.trod_struct hs h
  refine ⟨n, hl, fun i f hi => ?_⟩
  have hlt : i < xs.length := by rw [hlen]; exact (Array.getElem?_eq_some_iff.1 hi).1
  exact ⟨xs[i], by rw [hf i f hi, List.getElem?_eq_getElem hlt]⟩
end
theorem take_one {cs : List Value} {k : Nat} {v : Value} (h : (cs.drop k).take 1 = [v]) : cs[k]? = some v := by
  have : ((cs.drop k).take 1)[0]? = some v := by rw [h]; rfl
  simpa using this
theorem list2 {cs : List Value} {x0 x1 : Value} (hl : cs.length = 2) (h0 : cs[0]? = some x0) (h1 : cs[1]? = some x1) : cs = [x0, x1] := by
  apply List.ext_getElem?
  intro i
  by_cases hi : i < 2
  · have : i = 0 ∨ i = 1 := by omega
    rcases this with rfl | rfl
    all_goals (first | exact h0 | exact h1)
  · rw [List.getElem?_eq_none (by omega), List.getElem?_eq_none (by simp; omega)]
theorem Try.cellsIc : Try.prog.cellsOf 3 = 1 := by kernel_rfl
theorem Try.cellsAc : Try.prog.cellsOf 49 = 2 := by kernel_rfl
section
variable {H : Type} {enc : TypeId × Value → H} {W : World} {base : Nat} {spare : Nat → Bool} {held : Bool}
theorem int_at {n k o : Nat} {cs : List Value} {y : DataW H × List MemPlace} (h : DataW.trod enc Try.prog W base spare held n k ((cs.drop o).take (Try.prog.cellsOf k)) = some y) (hk : k = 3) : ∃ z : Int, cs[o]? = some (.int .i64 z) := by
  subst hk
  rw [Try.cellsIc] at h
  obtain ⟨z, e, _, _⟩ := DataW.trod_int Try.underlying3 h
  exact ⟨z, take_one e⟩
theorem act_cells {n : Nat} {cs : List Value} {y : DataW H × List MemPlace} (h : DataW.trod enc Try.prog W base spare held n 49 cs = some y) : ∃ x z : Int, cs = [.int .i64 x, .int .i64 z] := by
  obtain ⟨n, hl, key⟩ := trod_field Try.underlying49 h
  obtain ⟨_, k0⟩ := key 0 _ rfl
  obtain ⟨_, k1⟩ := key 1 _ rfl
  obtain ⟨z0, e0⟩ := int_at k0 rfl
  obtain ⟨z1, e1⟩ := int_at k1 rfl
  exact ⟨z0, z1, list2 (hl.trans Try.cellsAc) e0 e1⟩
end
theorem cells_all {base : Nat} {w : World} {A : Addr} {n : Nat} {cs : List Value} (h : w.cells? base A n = some cs) : ∀ (j : Nat) (v : Value), cs[j]? = some v → w.cell? (A.add j) = some v := by
  unfold World.cells? at h
  split at h
  · intro j v hj
    have key : ∀ (l : List Nat) (cs : List Value), l.mapM (fun i => w.cell? (A.add i)) = some cs → ∀ (j : Nat) (v : Value), cs[j]? = some v → ∃ i, l[j]? = some i ∧ w.cell? (A.add i) = some v := by
      intro l
      induction l with
      | nil => intro cs h; simp at h; subst h; intro j v hj; simp at hj
      | cons x r ih =>
        intro cs h
        simp only [List.mapM_cons] at h
        cases hx : w.cell? (A.add x) with
        | none => simp [hx] at h
        | some u =>
          simp only [hx, Option.bind_eq_bind, Option.bind_some] at h
          cases hr : r.mapM (fun i => w.cell? (A.add i)) with
          | none => simp [hr] at h
          | some us =>
            simp [hr] at h
            subst h
            intro j v hj
            cases j with
            | zero => simp at hj; subst hj; exact ⟨x, rfl, hx⟩
            | succ j =>
              obtain ⟨i, h1, h2⟩ := ih us hr j v (by simpa using hj)
              exact ⟨i, by simpa using h1, h2⟩
    obtain ⟨i, h1, h2⟩ := key _ _ h j v hj
    rw [List.getElem?_range] at h1
    · cases h1; exact h2
    · have := (List.getElem?_eq_some_iff.1 h1).1
      simpa using this
  · cases h
theorem block_lt {w : World} {b o : Nat} {v : Value} (h : w.cell? ⟨b, o, none⟩ = some v) : b < w.heap.size := by
  apply Classical.byContradiction
  intro hn
  have : w.heap[b]? = none := Array.getElem?_eq_none (by omega)
  simp [World.cell?, this] at h
/-- what a slice of acts holds, as long as nothing old is written -/
theorem acts_stay {H : Type} {enc : TypeId × Value → H} {w : World} {a : Option Addr} {len cap : Nat} {d : DataW H} {p : List MemPlace}
    (h : DataW.Trod enc Try.prog w 0 (fun _ => true) true 42 (.slice a len cap) d p) : AS w a len := by
  obtain ⟨fuel, hf⟩ := h
  rcases DataW.trod_slice Try.underlying42 hf with ⟨h0, _⟩ | ⟨A, len', cap', elems, rest, n, _, hcs, _, _, _, _, hlen, hel, _⟩
  · simp [Value.cells] at h0
    exact .inl h0.2.1
  · simp [Value.cells] at hcs
    obtain ⟨rfl, rfl, rfl⟩ := hcs
    rcases Nat.eq_zero_or_pos len with h0 | h0
    · exact .inl h0
    · right
      have key : ∀ i, i < len → ∃ x z : Int, ∀ (j : Nat) (v : Value), [Value.int .i64 x, .int .i64 z][j]? = some v → w.cell? ((A.add (i * 2)).add j) = some v := fun i hi => by
        have hE := hel i hi
        rw [Try.cellsAc] at hE
        obtain ⟨y, hy⟩ : ∃ y, elems[i]? = some y := ⟨_, List.getElem?_eq_getElem (by omega)⟩
        rw [hy] at hE
        simp only [Option.bind_eq_some_iff] at hE
        obtain ⟨cs, hc1, hy1⟩ := hE
        obtain ⟨x, z, rfl⟩ := act_cells hy1
        exact ⟨x, z, cells_all hc1⟩
      obtain ⟨b, off, spot⟩ := A
      obtain ⟨x0, _, q0⟩ := key 0 h0
      have q0 := q0 0 _ rfl
      have hspot : spot = none := by simpa [Addr.add] using World.cell?_spot q0
      subst hspot
      have hb : b < w.heap.size := by
        have e : ((⟨b, off, none⟩ : Addr).add (0 * 2)).add 0 = ⟨b, off, none⟩ := by simp [Addr.add]
        rw [e] at q0
        exact block_lt q0
      refine ⟨b, off, rfl, fun w' hw i hi => ?_⟩
      obtain ⟨x, z, hk⟩ := key i hi
      have hk' : ∀ (j : Nat) (v : Value), [Value.int .i64 x, .int .i64 z][j]? = some v → w'.cell? ⟨b, off + i * 2 + j, none⟩ = some v := fun j v hv => by
        have := hk j v hv
        rw [Go.WideShapes.add_plain, Go.WideShapes.add_plain] at this
        exact (hw.cell (p := ⟨b, off + i * 2 + j, none⟩) hb).trans this
      exact ⟨x, z, hk' 0 _ rfl, hk' 1 _ rfl⟩

end Go.Proofs.Ytoigickgknbbfae
