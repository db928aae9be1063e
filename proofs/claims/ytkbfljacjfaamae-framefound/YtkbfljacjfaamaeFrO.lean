/- Frames, bytes, rows of frames and of bytes that are handed in: what the values are. -/
import Derived.Test.YtkbfljacjfaamaeFrB
import Derived.WalkKit
import Derived.ProofKit
import Derived.OpenShut
import Derived.ShutString
import Derived.ChangeArms
import Derived.LaidMore
import Derived.Lib.SmallJoins
namespace Go.Proofs.Ytkbfljacjfaamae
open Go.ChangeShapes Go.WideShapes Go.ChangeAt Go.RowKit

section
variable {H : Type} {enc : TypeId × Value → H} {P : Program} {W : World} {base : Nat} {spare : Nat → Bool} {held : Bool}
/-- each field of a struct is read -/
theorem trod_field {t : TypeId} {fs : Array Field} {fuel : Nat} {cs : List Value} {x : DataW H × List MemPlace} (hs : P.underlying t = some (.struct fs)) (h : DataW.trod enc P W base spare held fuel t cs = some x) :
    ∃ n, cs.length = P.cellsOf t ∧ ∀ (i : Nat) (f : Field), fs[i]? = some f → ∃ y, DataW.trod enc P W base spare held n f.type ((cs.drop f.offset).take (P.cellsOf f.type)) = some y := by
  obtain ⟨xs, n, _, _, hl, hlen, hf⟩ := DataW.trod_struct hs h
  refine ⟨n, hl, fun i f hi => ?_⟩
  have hlt : i < xs.length := by rw [hlen]; exact (Array.getElem?_eq_some_iff.1 hi).1
  exact ⟨xs[i], by rw [hf i f hi, List.getElem?_eq_getElem hlt]⟩
end
theorem take_one {cs : List Value} {k : Nat} {v : Value} (h : (cs.drop k).take 1 = [v]) : cs[k]? = some v := by
  have : ((cs.drop k).take 1)[0]? = some v := by rw [h]; rfl
  simpa using this
theorem list6 {cs : List Value} {x0 x1 x2 x3 x4 x5 : Value} (hl : cs.length = 6) (h0 : cs[0]? = some x0) (h1 : cs[1]? = some x1) (h2 : cs[2]? = some x2) (h3 : cs[3]? = some x3) (h4 : cs[4]? = some x4) (h5 : cs[5]? = some x5) : cs = [x0, x1, x2, x3, x4, x5] := by
  apply List.ext_getElem?
  intro i
  by_cases hi : i < 6
  · have : i = 0 ∨ i = 1 ∨ i = 2 ∨ i = 3 ∨ i = 4 ∨ i = 5 := by omega
    rcases this with rfl | rfl | rfl | rfl | rfl | rfl
    all_goals (first | exact h0 | exact h1 | exact h2 | exact h3 | exact h4 | exact h5)
  · rw [List.getElem?_eq_none (by omega), List.getElem?_eq_none (by simp; omega)]
theorem Try.cellsIc : Try.prog.cellsOf 3 = 1 := by kernel_rfl
theorem Try.cellsBc : Try.prog.cellsOf 5 = 1 := by kernel_rfl
theorem Try.cellsFc : Try.prog.cellsOf 26 = 6 := by kernel_rfl
section
variable {H : Type} {enc : TypeId × Value → H} {W : World} {base : Nat} {spare : Nat → Bool} {held : Bool}
theorem int_at {n k o : Nat} {cs : List Value} {y : DataW H × List MemPlace} (h : DataW.trod enc Try.prog W base spare held n k ((cs.drop o).take (Try.prog.cellsOf k)) = some y) (hk : k = 3) : ∃ z : Int, cs[o]? = some (.int .i64 z) := by
  subst hk
  rw [Try.cellsIc] at h
  obtain ⟨z, e, _, _⟩ := DataW.trod_int Try.underlying3 h
  exact ⟨z, take_one e⟩
theorem frame_cells {n : Nat} {cs : List Value} {y : DataW H × List MemPlace} (h : DataW.trod enc Try.prog W base spare held n 26 cs = some y) : ∃ f : Fr, cs = fv f := by
  obtain ⟨n, hl, key⟩ := trod_field Try.underlying26 h
  obtain ⟨_, k0⟩ := key 0 _ rfl
  obtain ⟨_, k1⟩ := key 1 _ rfl
  obtain ⟨_, k2⟩ := key 2 _ rfl
  obtain ⟨_, k3⟩ := key 3 _ rfl
  obtain ⟨_, k4⟩ := key 4 _ rfl
  obtain ⟨_, k5⟩ := key 5 _ rfl
  obtain ⟨z0, e0⟩ := int_at k0 rfl
  obtain ⟨z1, e1⟩ := int_at k1 rfl
  obtain ⟨z2, e2⟩ := int_at k2 rfl
  obtain ⟨z3, e3⟩ := int_at k3 rfl
  obtain ⟨z4, e4⟩ := int_at k4 rfl
  obtain ⟨z5, e5⟩ := int_at k5 rfl
  exact ⟨⟨z0, z1, z2, z3, z4, z5⟩, list6 (hl.trans Try.cellsFc) e0 e1 e2 e3 e4 e5⟩
set_option maxRecDepth 100000 in
theorem frame_open {r : Reach} {b0 : Nat} {v : Value} {d : DataW H} {p : List MemPlace} (hv : Value.okWide Try.prog W r b0 26 v) (h : DataW.Trod enc Try.prog W base spare held 26 v d p) :
    ∃ f : Fr, v = .agg #[.int .i64 f.ki, .int .i64 f.ca, .int .i64 f.sq, .int .i64 f.a, .int .i64 f.b, .int .i64 f.c] := by
  obtain ⟨cs, rfl, _⟩ := okWide_struct Try.underlying26 hv
  obtain ⟨fuel, hf⟩ := h
  obtain ⟨f, e⟩ := frame_cells hf
  refine ⟨f, ?_⟩
  congr 1
  apply Array.ext'
  exact e
end
theorem cells_all {base : Nat} {w : World} {A : Addr} {n : Nat} {cs : List Value} (h : w.cells? base A n = some cs) : ∀ (j : Nat) (v : Value), cs[j]? = some v → w.cell? (A.add j) = some v := by
  unfold World.cells? at h
  split at h
  · intro j v hj
    have key : ∀ (l : List Nat) (cs : List Value), l.mapM (fun i => w.cell? (A.add i)) = some cs → ∀ (j : Nat) (v : Value), cs[j]? = some v → ∃ i, l[j]? = some i ∧ w.cell? (A.add i) = some v := by
      intro l
      induction l with
      | nil => intro cs h; simp at h; subst h; intro j v hj; simp at hj
      | cons x r ih =>
        intro cs h
        simp only [List.mapM_cons] at h
        cases hx : w.cell? (A.add x) with
        | none => simp [hx] at h
        | some u =>
          simp only [hx, Option.bind_eq_bind, Option.bind_some] at h
          cases hr : r.mapM (fun i => w.cell? (A.add i)) with
          | none => simp [hr] at h
          | some us =>
            simp [hr] at h
            subst h
            intro j v hj
            cases j with
            | zero => simp at hj; subst hj; exact ⟨x, rfl, hx⟩
            | succ j =>
              obtain ⟨i, h1, h2⟩ := ih us hr j v (by simpa using hj)
              exact ⟨i, by simpa using h1, h2⟩
    obtain ⟨i, h1, h2⟩ := key _ _ h j v hj
    rw [List.getElem?_range] at h1
    · cases h1; exact h2
    · have := (List.getElem?_eq_some_iff.1 h1).1
      simpa using this
  · cases h
theorem block_lt {w : World} {b o : Nat} {v : Value} (h : w.cell? ⟨b, o, none⟩ = some v) : b < w.heap.size := by
  apply Classical.byContradiction
  intro hn
  have : w.heap[b]? = none := Array.getElem?_eq_none (by omega)
  simp [World.cell?, this] at h
/-- bytes that are handed in -/
theorem bytes_read {H : Type} {enc : TypeId × Value → H} {w : World} {base : Nat} {spare : Nat → Bool} {held : Bool} {n : Nat} {cs : List Value} {x : DataW H × List MemPlace} (h : DataW.trod enc Try.prog w base spare held n 23 cs = some x) :
    ∃ v l, cs = [v] ∧ RD w v l := by
  rcases open_ints Try.underlying23 Try.underlying5 Try.cellsBc h with ⟨hcs, _⟩ | ⟨x, l, c, zs, hcs, _, hl, hm, hz, _, hcell, hwf⟩
  · exact ⟨_, [], hcs, RD.nil _⟩
  · have hlz : l ≤ zs.length := by rw [hz]; split <;> omega
    have hb : ∀ z ∈ zs, 0 ≤ z ∧ z < 256 := fun z hz => by
      have := hwf z hz
      simp [Lit.wf, IntKind.min, IntKind.max, IntKind.bits, IntKind.signed] at this
      omega
    refine ⟨_, (zs.take l).map Int.toNat, hcs, ?_, ?_⟩
    · intro y hy
      obtain ⟨z, hz, rfl⟩ := List.mem_map.1 hy
      have := hb z (List.mem_of_mem_take hz)
      omega
    · have hlen : ((zs.take l).map Int.toNat).length = l := by rw [List.length_map, List.length_take]; omega
      refine ⟨some x, c, by rw [hlen], by omega, ⟨hm, fun e => by cases e⟩, ?_⟩
      rcases Nat.eq_zero_or_pos l with h0 | h0
      · left; apply List.length_eq_zero_iff.1; omega
      · obtain ⟨b, off, rfl, hc'⟩ := ints_at hcell (by omega)
        refine .inr ⟨b, off, rfl, block_lt (hc' 0 (by omega)), fun i y hy => ?_⟩
        rw [List.getElem?_map, List.getElem?_take] at hy
        split at hy
        · rename_i hi
          have hi' : i < zs.length := by omega
          rw [List.getElem?_eq_getElem hi'] at hy
          simp at hy
          have hz0 := hb zs[i] (List.getElem_mem hi')
          rw [hc' i hi']
          have e : zs.getD i 0 = zs[i] := by simp [List.getD, hi']
          rw [e, ← hy]
          congr 2
          omega
        · simp at hy
theorem bytes_open {H : Type} {enc : TypeId × Value → H} {w : World} {base : Nat} {spare : Nat → Bool} {held : Bool} {a : Option Addr} {len cap : Nat} {d : DataW H} {p : List MemPlace} (h : DataW.Trod enc Try.prog w base spare held 23 (.slice a len cap) d p) : ∃ l, RD w (.slice a len cap) l := by
  obtain ⟨fuel, hf⟩ := h
  obtain ⟨v, l, e, hr⟩ := bytes_read hf
  simp [Value.cells] at e
  exact ⟨l, by rw [e]; exact hr⟩

end Go.Proofs.Ytkbfljacjfaamae
