/- Rows of parts of a stream that are read. -/
import Derived.Test.YtkbfljacjfaamadFrN
import Derived.Test.YtkbfljacjfaamadFrO
namespace Go.Proofs.Ytkbfljacjfaamad
open Go.ChangeShapes Go.WideShapes Go.ChangeAt Go.RowKit

/-- a slice that reads as rows of bytes -/
def RP (W : World) (v : Value) (ps : List (List Nat)) : Prop :=
  ∃ a cap, v = .slice a ps.length cap ∧ ps.length ≤ cap ∧ (ps = [] ∨ ∃ g o, a = some ⟨g, o, none⟩ ∧ g < W.heap.size ∧ ∀ (i : Nat) l, ps[i]? = some l → ∃ u, W.cell? ⟨g, o + i, none⟩ = some u ∧ RD W u l)
theorem RP.form {W : World} {v : Value} {ps : List (List Nat)} (h : RP W v ps) : ∃ a cap, v = .slice a ps.length cap ∧ ps.length ≤ cap := by
  obtain ⟨a, cap, h1, h2, _⟩ := h
  exact ⟨a, cap, h1, h2⟩
theorem RP.at {W W' : World} {a : Option Addr} {n cap : Nat} {ps : List (List Nat)} (h : RP W (.slice a n cap) ps) (hb : Below W.heap.size W W') {i : Nat} {l : List Nat} (hi : ps[i]? = some l) : ∃ g o, a = some ⟨g, o, none⟩ ∧ ∃ u, W'.cell? ⟨g, o + i, none⟩ = some u ∧ RD W u l := by
  obtain ⟨a', cap', e, _, h⟩ := h
  cases e
  rcases h with h | ⟨g, o, rfl, hlt, h⟩
  · rw [h] at hi; simp at hi
  · obtain ⟨u, h1, h2⟩ := h i l hi
    exact ⟨g, o, rfl, u, (hb.cell (p := ⟨g, o + i, none⟩) hlt).trans h1, h2⟩
theorem Try.cellsSc : Try.prog.cellsOf 56 = 1 := by kernel_rfl
theorem parts_open {H : Type} {enc : TypeId × Value → H} {w : World} {a : Option Addr} {len cap : Nat} {d : DataW H} {p : List MemPlace}
    (h : DataW.Trod enc Try.prog w 0 (fun _ => true) true 68 (.slice a len cap) d p) : ∃ ps, RP w (.slice a len cap) ps := by
  obtain ⟨fuel, hf⟩ := h
  rcases DataW.trod_slice Try.underlying68 hf with ⟨h0, _⟩ | ⟨A, len', cap', elems, rest, n, _, hcs, _, _, hlc, _, hlen, hel, _⟩
  · simp [Value.cells] at h0
    obtain ⟨rfl, rfl, rfl⟩ := h0
    exact ⟨[], none, 0, rfl, Nat.le_refl _, .inl rfl⟩
  · simp [Value.cells] at hcs
    obtain ⟨rfl, rfl, rfl⟩ := hcs
    have key : ∀ i, i < len → ∃ u l, w.cell? (A.add i) = some u ∧ RD w u l := fun i hi => by
      have hE := hel i hi
      rw [Try.cellsSc, Nat.mul_one] at hE
      obtain ⟨y, hy⟩ : ∃ y, elems[i]? = some y := ⟨_, List.getElem?_eq_getElem (by omega)⟩
      rw [hy] at hE
      simp only [Option.bind_eq_some_iff] at hE
      obtain ⟨cs, hc1, hy1⟩ := hE
      obtain ⟨u, l, rfl, hr⟩ := bytes_read hy1
      have := cells_all hc1 0 u rfl
      have e0 : (A.add i).add 0 = A.add i := by simp [Addr.add]
      rw [e0] at this
      exact ⟨u, l, this, hr⟩
    have hps : ∃ ps : List (List Nat), ps.length = len ∧ ∀ (i : Nat) l, ps[i]? = some l → ∃ u, w.cell? (A.add i) = some u ∧ RD w u l := by
      clear hel hlen hf
      have step : ∀ m, m ≤ len → ∃ ps : List (List Nat), ps.length = m ∧ ∀ (i : Nat) l, ps[i]? = some l → ∃ u, w.cell? (A.add i) = some u ∧ RD w u l := by
        intro m
        induction m with
        | zero => exact fun _ => ⟨[], rfl, by simp⟩
        | succ m ih =>
          intro hm
          obtain ⟨ps, h1, h2⟩ := ih (by omega)
          obtain ⟨u, l, h3, h4⟩ := key m (by omega)
          refine ⟨ps ++ [l], by simp [h1], fun i x hx => ?_⟩
          by_cases hi : i < ps.length
          · rw [List.getElem?_append_left hi] at hx; exact h2 i x hx
          · rw [List.getElem?_append_right (by omega)] at hx
            have hi0 : i - ps.length = 0 := by
              have := (List.getElem?_eq_some_iff.1 hx).1
              simp at this
              omega
            rw [hi0] at hx
            simp at hx
            subst hx
            have : i = m := by omega
            subst this
            exact ⟨u, h3, h4⟩
      exact step len (Nat.le_refl _)
    obtain ⟨ps, h1, h2⟩ := hps
    refine ⟨ps, some A, cap, by rw [h1], by omega, ?_⟩
    rcases Nat.eq_zero_or_pos len with h0 | h0
    · left; apply List.length_eq_zero_iff.1; omega
    · right
      obtain ⟨u, _, q0, _⟩ := key 0 h0
      obtain ⟨b, off, spot⟩ := A
      have hspot : spot = none := by simpa [Addr.add] using World.cell?_spot q0
      subst hspot
      have hb : b < w.heap.size := by
        have e : (⟨b, off, none⟩ : Addr).add 0 = ⟨b, off, none⟩ := by simp [Addr.add]
        rw [e] at q0
        exact block_lt q0
      refine ⟨b, off, rfl, hb, fun i l hi => ?_⟩
      obtain ⟨u, h3, h4⟩ := h2 i l hi
      rw [Go.WideShapes.add_plain] at h3
      exact ⟨u, h3, h4⟩

end Go.Proofs.Ytkbfljacjfaamad
