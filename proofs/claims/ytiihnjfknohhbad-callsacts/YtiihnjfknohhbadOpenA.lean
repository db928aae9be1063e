/- Calls, and slices of acts, that are handed in: what the values are. -/
import Derived.Test.YtiihnjfknohhbadCallM
import Derived.Test.YtiihnjfknohhbadRows
import Derived.WalkKit
import Derived.ProofKit
import Derived.OpenShut
import Derived.ShutString
import Derived.ChangeArms
import Derived.LaidMore
import Derived.Lib.SmallJoins
namespace Go.Proofs.Ytiihnjfknohhbad
open Go.ChangeShapes Go.WideShapes Go.ChangeAt Go.RowKit

section
variable {H : Type} {enc : TypeId × Value → H} {P : Program} {W : World} {base : Nat} {spare : Nat → Bool} {held : Bool}
/-- each field of a struct is read -/
theorem trod_field {t : TypeId} {fs : Array Field} {fuel : Nat} {cs : List Value} {x : DataW H × List MemPlace} (hs : P.underlying t = some (.struct fs)) (h : DataW.trod enc P W base spare held fuel t cs = some x) :
    ∃ n, cs.length = P.cellsOf t ∧ ∀ (i : Nat) (f : Field), fs[i]? = some f → ∃ y, DataW.trod enc P W base spare held n f.type ((cs.drop f.offset).take (P.cellsOf f.type)) = some y := by
  obtain ⟨xs, n, _, _, hl, hlen, hf⟩ := DataW.trod_struct hs h
  refine ⟨n, hl, fun i f hi => ?_⟩
  have hlt : i < xs.length := by rw [hlen]; exact (Array.getElem?_eq_some_iff.1 hi).1
  exact ⟨xs[i], by rw [hf i f hi, List.getElem?_eq_getElem hlt]⟩
end
theorem take_one {cs : List Value} {k : Nat} {v : Value} (h : (cs.drop k).take 1 = [v]) : cs[k]? = some v := by
  have : ((cs.drop k).take 1)[0]? = some v := by rw [h]; rfl
  simpa using this
theorem take_in {cs : List Value} {k m j : Nat} {v : Value} (h : ((cs.drop k).take m)[j]? = some v) : cs[k + j]? = some v := by
  rw [List.getElem?_take] at h
  split at h
  · rwa [List.getElem?_drop] at h
  · cases h
theorem list4 {cs : List Value} {x0 x1 x2 x3 : Value} (hl : cs.length = 4) (h0 : cs[0]? = some x0) (h1 : cs[1]? = some x1) (h2 : cs[2]? = some x2) (h3 : cs[3]? = some x3) : cs = [x0, x1, x2, x3] := by
  apply List.ext_getElem?
  intro i
  by_cases hi : i < 4
  · have : i = 0 ∨ i = 1 ∨ i = 2 ∨ i = 3 := by omega
    rcases this with rfl | rfl | rfl | rfl
    all_goals (first | exact h0 | exact h1 | exact h2 | exact h3)
  · rw [List.getElem?_eq_none (by omega), List.getElem?_eq_none (by simp; omega)]

theorem Try.cells3c : Try.prog.cellsOf 3 = 1 := by kernel_rfl
theorem Try.cells4c : Try.prog.cellsOf 4 = 1 := by kernel_rfl
theorem Try.cellsAc : Try.prog.cellsOf 37 = 6 := by kernel_rfl
theorem Try.cellsKc : Try.prog.cellsOf 35 = 4 := by kernel_rfl
section
variable {H : Type} {enc : TypeId × Value → H} {W : World} {base : Nat} {spare : Nat → Bool} {held : Bool}
theorem int_at {n k o : Nat} {cs : List Value} {y : DataW H × List MemPlace} (h : DataW.trod enc Try.prog W base spare held n k ((cs.drop o).take (Try.prog.cellsOf k)) = some y) (hk : k = 3) : ∃ z : Int, cs[o]? = some (.int .i64 z) := by
  subst hk
  rw [Try.cells3c] at h
  obtain ⟨z, e, _, _⟩ := DataW.trod_int Try.underlying3 h
  exact ⟨z, take_one e⟩
theorem bool_at {n k o : Nat} {cs : List Value} {y : DataW H × List MemPlace} (h : DataW.trod enc Try.prog W base spare held n k ((cs.drop o).take (Try.prog.cellsOf k)) = some y) (hk : k = 4) : ∃ b : Bool, cs[o]? = some (.bool b) := by
  subst hk
  rw [Try.cells4c] at h
  obtain ⟨b, e, _⟩ := DataW.trod_bool Try.underlying4 h
  exact ⟨b, take_one e⟩
theorem call_open {r : Reach} {b0 : Nat} {v : Value} {d : DataW H} {p : List MemPlace} (hv : Value.okWide Try.prog W r b0 35 v) (h : DataW.Trod enc Try.prog W base spare held 35 v d p) :
    ∃ c : Cl, v = .agg #[.int .i64 c.fl, .int .i64 c.ca, .int .i64 c.ag, .bool c.up] := by
  obtain ⟨cs, rfl, _⟩ := okWide_struct Try.underlying35 hv
  obtain ⟨fuel, hf⟩ := h
  obtain ⟨n, hl, key⟩ := trod_field Try.underlying35 hf
  obtain ⟨_, k0⟩ := key 0 _ rfl
  obtain ⟨_, k1⟩ := key 1 _ rfl
  obtain ⟨_, k2⟩ := key 2 _ rfl
  obtain ⟨_, k3⟩ := key 3 _ rfl
  obtain ⟨z0, e0⟩ := int_at k0 rfl
  obtain ⟨z1, e1⟩ := int_at k1 rfl
  obtain ⟨z2, e2⟩ := int_at k2 rfl
  obtain ⟨z3, e3⟩ := bool_at k3 rfl
  have e := list4 (hl.trans Try.cellsKc) e0 e1 e2 e3
  refine ⟨⟨z0, z1, z2, z3⟩, ?_⟩
  congr 1
  apply Array.ext'
  exact e
theorem list6 {cs : List Value} {x0 x1 x2 x3 x4 x5 : Value} (hl : cs.length = 6) (h0 : cs[0]? = some x0) (h1 : cs[1]? = some x1) (h2 : cs[2]? = some x2) (h3 : cs[3]? = some x3) (h4 : cs[4]? = some x4) (h5 : cs[5]? = some x5) : cs = [x0, x1, x2, x3, x4, x5] := by
  apply List.ext_getElem?
  intro i
  by_cases hi : i < 6
  · have : i = 0 ∨ i = 1 ∨ i = 2 ∨ i = 3 ∨ i = 4 ∨ i = 5 := by omega
    rcases this with rfl | rfl | rfl | rfl | rfl | rfl
    all_goals (first | exact h0 | exact h1 | exact h2 | exact h3 | exact h4 | exact h5)
  · rw [List.getElem?_eq_none (by omega), List.getElem?_eq_none (by simp; omega)]
theorem act_cells {n : Nat} {cs : List Value} {y : DataW H × List MemPlace} (h : DataW.trod enc Try.prog W base spare held n 37 cs = some y) :
    ∃ (a : Int) (c : Cl) (d : Bool), cs = [.int .i64 a, .int .i64 c.fl, .int .i64 c.ca, .int .i64 c.ag, .bool c.up, .bool d] := by
  obtain ⟨n, hl, key⟩ := trod_field Try.underlying37 h
  obtain ⟨_, k0⟩ := key 0 _ rfl
  obtain ⟨_, k1⟩ := key 1 _ rfl
  obtain ⟨_, k2⟩ := key 2 _ rfl
  obtain ⟨a, e0⟩ := int_at k0 rfl
  obtain ⟨d, e5⟩ := bool_at k2 rfl
  obtain ⟨_, _, kd⟩ := trod_field Try.underlying35 k1
  obtain ⟨_, d0⟩ := kd 0 _ rfl
  obtain ⟨_, d1⟩ := kd 1 _ rfl
  obtain ⟨_, d2⟩ := kd 2 _ rfl
  obtain ⟨_, d3⟩ := kd 3 _ rfl
  obtain ⟨z0, e1⟩ := int_at d0 rfl
  obtain ⟨z1, e2⟩ := int_at d1 rfl
  obtain ⟨z2, e3⟩ := int_at d2 rfl
  obtain ⟨z3, e4⟩ := bool_at d3 rfl
  exact ⟨a, ⟨z0, z1, z2, z3⟩, d, list6 (hl.trans Try.cellsAc) e0 (take_in (k := 1) e1) (take_in (k := 1) e2) (take_in (k := 1) e3) (take_in (k := 1) e4) e5⟩
end
theorem cells_all {base : Nat} {w : World} {A : Addr} {n : Nat} {cs : List Value} (h : w.cells? base A n = some cs) : ∀ (j : Nat) (v : Value), cs[j]? = some v → w.cell? (A.add j) = some v := by
  unfold World.cells? at h
  split at h
  · intro j v hj
    have key : ∀ (l : List Nat) (cs : List Value), l.mapM (fun i => w.cell? (A.add i)) = some cs → ∀ (j : Nat) (v : Value), cs[j]? = some v → ∃ i, l[j]? = some i ∧ w.cell? (A.add i) = some v := by
      intro l
      induction l with
      | nil => intro cs h; simp at h; subst h; intro j v hj; simp at hj
      | cons x r ih =>
        intro cs h
        simp only [List.mapM_cons] at h
        cases hx : w.cell? (A.add x) with
        | none => simp [hx] at h
        | some u =>
          simp only [hx, Option.bind_eq_bind, Option.bind_some] at h
          cases hr : r.mapM (fun i => w.cell? (A.add i)) with
          | none => simp [hr] at h
          | some us =>
            simp [hr] at h
            subst h
            intro j v hj
            cases j with
            | zero => simp at hj; subst hj; exact ⟨x, rfl, hx⟩
            | succ j =>
              obtain ⟨i, h1, h2⟩ := ih us hr j v (by simpa using hj)
              exact ⟨i, by simpa using h1, h2⟩
    obtain ⟨i, h1, h2⟩ := key _ _ h j v hj
    rw [List.getElem?_range] at h1
    · cases h1; exact h2
    · have := (List.getElem?_eq_some_iff.1 h1).1
      simpa using this
  · cases h
theorem block_lt {w : World} {b o : Nat} {v : Value} (h : w.cell? ⟨b, o, none⟩ = some v) : b < w.heap.size := by
  apply Classical.byContradiction
  intro hn
  have : w.heap[b]? = none := Array.getElem?_eq_none (by omega)
  simp [World.cell?, this] at h
/-- what a slice of acts holds, as long as nothing old is written -/
theorem acts_stay {H : Type} {enc : TypeId × Value → H} {w : World} {a : Option Addr} {len cap : Nat} {d : DataW H} {p : List MemPlace}
    (h : DataW.Trod enc Try.prog w 0 (fun _ => true) true 24 (.slice a len cap) d p) :
    len = 0 ∨ ∃ b off, a = some ⟨b, off, none⟩ ∧ ∀ w', Below w.heap.size w w' → ∀ i, i < len → ∃ (x : Int) (c : Cl) (y : Bool), w'.cell? ⟨b, off + i * 6, none⟩ = some (.int .i64 x) ∧ w'.cell? ⟨b, off + i * 6 + 1, none⟩ = some (.int .i64 c.fl) ∧ w'.cell? ⟨b, off + i * 6 + 2, none⟩ = some (.int .i64 c.ca) ∧ w'.cell? ⟨b, off + i * 6 + 3, none⟩ = some (.int .i64 c.ag) ∧ w'.cell? ⟨b, off + i * 6 + 4, none⟩ = some (.bool c.up) ∧ w'.cell? ⟨b, off + i * 6 + 5, none⟩ = some (.bool y) := by
  obtain ⟨fuel, hf⟩ := h
  rcases DataW.trod_slice Try.underlying24 hf with ⟨h0, _⟩ | ⟨A, len', cap', elems, rest, n, _, hcs, _, _, _, _, hlen, hel, _⟩
  · simp [Value.cells] at h0
    exact .inl h0.2.1
  · simp [Value.cells] at hcs
    obtain ⟨rfl, rfl, rfl⟩ := hcs
    rcases Nat.eq_zero_or_pos len with h0 | h0
    · exact .inl h0
    · right
      have key : ∀ i, i < len → ∃ (x : Int) (c : Cl) (y : Bool), ∀ (j : Nat) (v : Value), [Value.int .i64 x, .int .i64 c.fl, .int .i64 c.ca, .int .i64 c.ag, .bool c.up, .bool y][j]? = some v → w.cell? ((A.add (i * 6)).add j) = some v := fun i hi => by
        have hE := hel i hi
        rw [Try.cellsAc] at hE
        obtain ⟨y, hy⟩ : ∃ y, elems[i]? = some y := ⟨_, List.getElem?_eq_getElem (by omega)⟩
        rw [hy] at hE
        simp only [Option.bind_eq_some_iff] at hE
        obtain ⟨cs, hc1, hy1⟩ := hE
        obtain ⟨x, c, z, rfl⟩ := act_cells hy1
        exact ⟨x, c, z, cells_all hc1⟩
      obtain ⟨b, off, spot⟩ := A
      obtain ⟨x0, _, _, q0⟩ := key 0 h0
      have q0 := q0 0 _ rfl
      have hspot : spot = none := by simpa [Addr.add] using World.cell?_spot q0
      subst hspot
      have hb : b < w.heap.size := by
        have e : ((⟨b, off, none⟩ : Addr).add (0 * 6)).add 0 = ⟨b, off, none⟩ := by simp [Addr.add]
        rw [e] at q0
        exact block_lt q0
      refine ⟨b, off, rfl, fun w' hw i hi => ?_⟩
      obtain ⟨x, c, y, hk⟩ := key i hi
      have hk' : ∀ (j : Nat) (v : Value), [Value.int .i64 x, .int .i64 c.fl, .int .i64 c.ca, .int .i64 c.ag, .bool c.up, .bool y][j]? = some v → w'.cell? ⟨b, off + i * 6 + j, none⟩ = some v := fun j v hv => by
        have := hk j v hv
        rw [Go.WideShapes.add_plain, Go.WideShapes.add_plain] at this
        exact (hw.cell (p := ⟨b, off + i * 6 + j, none⟩) hb).trans this
      exact ⟨x, c, y, hk' 0 _ rfl, hk' 1 _ rfl, hk' 2 _ rfl, hk' 3 _ rfl, hk' 4 _ rfl, hk' 5 _ rfl⟩

end Go.Proofs.Ytiihnjfknohhbad
