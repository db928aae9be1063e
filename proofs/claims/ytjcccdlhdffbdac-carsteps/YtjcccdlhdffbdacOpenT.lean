/- Slices of ticks (what a car is told) that are handed in. -/
import Derived.Test.YtjcccdlhdffbdacOpenC
namespace Go.Proofs.Ytjcccdlhdffbdac
open Go.ChangeShapes Go.WideShapes Go.ChangeAt Go.RowKit

theorem Try.cellsTc : Try.prog.cellsOf 37 = 4 := by kernel_rfl
section
variable {H : Type} {enc : TypeId × Value → H} {W : World} {base : Nat} {spare : Nat → Bool} {held : Bool}
theorem tick_cells {n : Nat} {cs : List Value} {y : DataW H × List MemPlace} (h : DataW.trod enc Try.prog W base spare held n 37 cs = some y) :
    ∃ (o : Bool) (g : Int) (b f : Bool), cs = [.bool o, .int .i64 g, .bool b, .bool f] := by
  obtain ⟨n, hl, key⟩ := trod_field Try.underlying37 h
  obtain ⟨_, k0⟩ := key 0 _ rfl
  obtain ⟨_, k1⟩ := key 1 _ rfl
  obtain ⟨_, k2⟩ := key 2 _ rfl
  obtain ⟨b, e2⟩ := bool_at k1 rfl
  obtain ⟨f, e3⟩ := bool_at k2 rfl
  obtain ⟨_, _, kd⟩ := trod_field Try.underlying35 k0
  obtain ⟨_, d0⟩ := kd 0 _ rfl
  obtain ⟨_, d1⟩ := kd 1 _ rfl
  obtain ⟨o, e0⟩ := bool_at d0 rfl
  obtain ⟨g, e1⟩ := int_at d1 rfl
  exact ⟨o, g, b, f, list4 (hl.trans Try.cellsTc) (take_in (k := 0) e0) (take_in (k := 0) e1) e2 e3⟩
theorem cells4 {w : World} {A : Addr} {x0 x1 x2 x3 : Value} (h : w.cells? base A 4 = some [x0, x1, x2, x3]) : w.cell? (A.add 0) = some x0 ∧ w.cell? (A.add 1) = some x1 ∧ w.cell? (A.add 2) = some x2 ∧ w.cell? (A.add 3) = some x3 := by
  unfold World.cells? at h
  split at h
  · simp only [List.range_succ, List.range_zero, List.nil_append, List.cons_append, List.mapM_cons, List.mapM_nil] at h
    cases h0 : w.cell? (A.add 0) with
    | none => simp [h0] at h
    | some c0 =>
      cases h1 : w.cell? (A.add 1) with
      | none => simp [h0, h1] at h
      | some c1 =>
        cases h2 : w.cell? (A.add 2) with
        | none => simp [h0, h1, h2] at h
        | some c2 =>
          cases h3 : w.cell? (A.add 3) with
          | none => simp [h0, h1, h2, h3] at h
          | some c3 => simpa [h0, h1, h2, h3] using h
  · cases h
theorem block_lt {w : World} {b o : Nat} {v : Value} (h : w.cell? ⟨b, o, none⟩ = some v) : b < w.heap.size := by
  apply Classical.byContradiction
  intro hn
  have : w.heap[b]? = none := Array.getElem?_eq_none (by omega)
  simp [World.cell?, this] at h
end
theorem ticks_stay {H : Type} {enc : TypeId × Value → H} {w : World} {a : Option Addr} {len cap : Nat} {d : DataW H} {p : List MemPlace}
    (h : DataW.Trod enc Try.prog w 0 (fun _ => true) true 32 (.slice a len cap) d p) :
    len = 0 ∨ ∃ b off, a = some ⟨b, off, none⟩ ∧ ∀ w', Below w.heap.size w w' → ∀ i, i < len → ∃ (o : Bool) (g : Int) (x f : Bool), w'.cell? ⟨b, off + i * 4, none⟩ = some (.bool o) ∧ w'.cell? ⟨b, off + i * 4 + 1, none⟩ = some (.int .i64 g) ∧ w'.cell? ⟨b, off + i * 4 + 2, none⟩ = some (.bool x) ∧ w'.cell? ⟨b, off + i * 4 + 3, none⟩ = some (.bool f) := by
  obtain ⟨fuel, hf⟩ := h
  rcases DataW.trod_slice Try.underlying32 hf with ⟨h0, _⟩ | ⟨A, len', cap', elems, rest, n, _, hcs, _, _, _, _, hlen, hel, _⟩
  · simp [Value.cells] at h0
    exact .inl h0.2.1
  · simp [Value.cells] at hcs
    obtain ⟨rfl, rfl, rfl⟩ := hcs
    rcases Nat.eq_zero_or_pos len with h0 | h0
    · exact .inl h0
    · right
      have key : ∀ i, i < len → ∃ (o : Bool) (g : Int) (x f : Bool), w.cell? ((A.add (i * 4)).add 0) = some (.bool o) ∧ w.cell? ((A.add (i * 4)).add 1) = some (.int .i64 g) ∧ w.cell? ((A.add (i * 4)).add 2) = some (.bool x) ∧ w.cell? ((A.add (i * 4)).add 3) = some (.bool f) := fun i hi => by
        have hE := hel i hi
        rw [Try.cellsTc] at hE
        obtain ⟨y, hy⟩ : ∃ y, elems[i]? = some y := ⟨_, List.getElem?_eq_getElem (by omega)⟩
        rw [hy] at hE
        simp only [Option.bind_eq_some_iff] at hE
        obtain ⟨cs, hc1, hy1⟩ := hE
        obtain ⟨o, g, x, f, rfl⟩ := tick_cells hy1
        exact ⟨o, g, x, f, cells4 hc1⟩
      obtain ⟨b, off, spot⟩ := A
      obtain ⟨o0, _, _, _, q0, _, _, _⟩ := key 0 h0
      have hspot : spot = none := by simpa [Addr.add] using World.cell?_spot q0
      subst hspot
      have hb : b < w.heap.size := by
        have e : ((⟨b, off, none⟩ : Addr).add (0 * 4)).add 0 = ⟨b, off, none⟩ := by simp [Addr.add]
        rw [e] at q0
        exact block_lt q0
      refine ⟨b, off, rfl, fun w' hw i hi => ?_⟩
      obtain ⟨o, g, x, f, p0, p1, p2, p3⟩ := key i hi
      rw [Go.WideShapes.add_plain, Go.WideShapes.add_plain] at p0 p1 p2 p3
      refine ⟨o, g, x, f, ?_, ?_, ?_, ?_⟩
      · exact (hw.cell (p := ⟨b, off + i * 4, none⟩) hb).trans p0
      · exact (hw.cell (p := ⟨b, off + i * 4 + 1, none⟩) hb).trans p1
      · exact (hw.cell (p := ⟨b, off + i * 4 + 2, none⟩) hb).trans p2
      · exact (hw.cell (p := ⟨b, off + i * 4 + 3, none⟩) hb).trans p3

end Go.Proofs.Ytjcccdlhdffbdac
