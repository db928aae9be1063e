/- Rows of frames that are handed in; rows of frames put behind one another. -/
import Derived.Test.YtkbfljacjfaamaeFrN
import Derived.Test.YtkbfljacjfaamaeFrO
namespace Go.Proofs.Ytkbfljacjfaamae
open Go.ChangeShapes Go.WideShapes Go.ChangeAt Go.RowKit

theorem frames_open {H : Type} {enc : TypeId × Value → H} {w : World} {a : Option Addr} {len cap : Nat} {d : DataW H} {p : List MemPlace}
    (h : DataW.Trod enc Try.prog w 0 (fun _ => true) true 22 (.slice a len cap) d p) : ∃ L, RF w (.slice a len cap) L := by
  obtain ⟨fuel, hf⟩ := h
  rcases DataW.trod_slice Try.underlying22 hf with ⟨h0, _⟩ | ⟨A, len', cap', elems, rest, n, _, hcs, _, _, hlc, _, hlen, hel, _⟩
  · simp [Value.cells] at h0
    obtain ⟨rfl, rfl, rfl⟩ := h0
    exact ⟨[], none, 0, rfl, Nat.le_refl _, .inl rfl⟩
  · simp [Value.cells] at hcs
    obtain ⟨rfl, rfl, rfl⟩ := hcs
    have key : ∀ i, i < len → ∃ f : Fr, ∀ (j : Nat) (u : Value), (fv f)[j]? = some u → w.cell? ((A.add (i * 6)).add j) = some u := fun i hi => by
      have hE := hel i hi
      rw [Try.cellsFc] at hE
      obtain ⟨y, hy⟩ : ∃ y, elems[i]? = some y := ⟨_, List.getElem?_eq_getElem (by omega)⟩
      rw [hy] at hE
      simp only [Option.bind_eq_some_iff] at hE
      obtain ⟨cs, hc1, hy1⟩ := hE
      obtain ⟨f, rfl⟩ := frame_cells hy1
      exact ⟨f, cells_all hc1⟩
    have hps : ∃ L : List Fr, L.length = len ∧ ∀ (i : Nat) f, L[i]? = some f → ∀ (j : Nat) (u : Value), (fv f)[j]? = some u → w.cell? ((A.add (i * 6)).add j) = some u := by
      clear hel hlen hf
      have step : ∀ m, m ≤ len → ∃ L : List Fr, L.length = m ∧ ∀ (i : Nat) f, L[i]? = some f → ∀ (j : Nat) (u : Value), (fv f)[j]? = some u → w.cell? ((A.add (i * 6)).add j) = some u := by
        intro m
        induction m with
        | zero => exact fun _ => ⟨[], rfl, by simp⟩
        | succ m ih =>
          intro hm
          obtain ⟨L, h1, h2⟩ := ih (by omega)
          obtain ⟨f, h3⟩ := key m (by omega)
          refine ⟨L ++ [f], by simp [h1], fun i x hx => ?_⟩
          by_cases hi : i < L.length
          · rw [List.getElem?_append_left hi] at hx; exact h2 i x hx
          · rw [List.getElem?_append_right (by omega)] at hx
            have hi0 : i - L.length = 0 := by
              have := (List.getElem?_eq_some_iff.1 hx).1
              simp at this
              omega
            rw [hi0] at hx
            simp at hx
            subst hx
            have : i = m := by omega
            subst this
            exact h3
      exact step len (Nat.le_refl _)
    obtain ⟨L, h1, h2⟩ := hps
    refine ⟨L, some A, cap, by rw [h1], by omega, ?_⟩
    rcases Nat.eq_zero_or_pos len with h0 | h0
    · left; apply List.length_eq_zero_iff.1; omega
    · right
      obtain ⟨f0, q0⟩ := key 0 h0
      have q0 := q0 0 _ rfl
      obtain ⟨b, off, spot⟩ := A
      have hspot : spot = none := by simpa [Addr.add] using World.cell?_spot q0
      subst hspot
      have hb : b < w.heap.size := by
        have e : ((⟨b, off, none⟩ : Addr).add (0 * 6)).add 0 = ⟨b, off, none⟩ := by simp [Addr.add]
        rw [e] at q0
        exact block_lt q0
      refine ⟨b, off, rfl, hb, fun i f hi j u hu => ?_⟩
      have := h2 i f hi j u hu
      rw [Go.WideShapes.add_plain, Go.WideShapes.add_plain] at this
      exact this

/-- frames that are read are put behind a row of frames -/
theorem wpList_appendFR {ops : Array Oper} {rest : List Oper} {o : Oper} {a : Act} {w : World} {Q : Exit → Act → World → Prop} (hgd : o.guard = none) (s x : Operand)
    (ho : o.op = .call { callee := .builtin .append, args := #[s, x], argTypes := #[22, 22] })
    (B C : Nat) (v u : Value) (F M : List Fr) (hs : a.eval s = v) (hown : FO w B v F) (hx : a.eval x = u) (hr : FO w C u M)
    (h63 : F.length + M.length ≤ 1000000) (hB : B ≤ w.heap.size)
    (h : ∀ v' w', FO w' B v' (F ++ M) → w.grownBy w' v.ownBlock → (v'.ownBlock = v.ownBlock ∨ v'.ownBlock = some w.heap.size) → wpList Try.prog ops Q rest (a.put o.dst v') w') : wpList Try.prog ops Q (o :: rest) a w := by
  obtain ⟨i0, hi, hz0, hz1, hz2⟩ := info_parts infoFz
  rcases hr.form with ⟨rfl, rfl⟩ | ⟨g, cap, rfl, _, hlt, hc⟩
  · refine wpList_append_own_none hgd s x 22 ho B 26 i0 6 Try.underlying22 hi v F.length (rv F) hs hown hx ?_
    refine h v w ?_ (World.grownBy.refl w _) (.inl rfl)
    rw [List.append_nil]; exact hown
  · obtain ⟨v', w', hrun, h2, h3, _, h5⟩ := run_append_own_at (P := Try.prog) w B 22 o.type 26 i0 _ 6 48 Try.underlying22 hi hz0 hz1 hz2 rfl (by decide) v F.length (rv F) hown ⟨g, 0, none⟩ M.length cap (rv M) (by rw [rv_length]) (World.ownsRow.cells hr rfl) (rv_one M) (by unfold maxLen; omega) (by omega) hB
    refine Lib.wpList_append_run w hgd s x 22 22 ho v (.slice (some ⟨g, 0, none⟩) M.length cap) hs hx v' w' hrun ?_
    refine h v' w' ?_ h3 h5
    unfold FO
    rw [List.length_append, rv_append]
    exact h2

end Go.Proofs.Ytkbfljacjfaamae
