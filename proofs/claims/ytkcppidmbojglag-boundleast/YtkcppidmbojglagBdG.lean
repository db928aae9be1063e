/- A beginning that is made list by list. -/
import Derived.Test.YtkcppidmbojglagBdF
import Derived.Test.YtkcppidmbojglagBdS
import Derived.Test.YtkcppidmbojglagRtJ
namespace Go.Proofs.Ytkcppidmbojglag
open Go.RowKit

/-- what holds while a beginning is made: the first c lists are there, and none behind the next one -/
structure Bq (W0 W : World) (gb : Nat) (D : Nat → Prop) (p : List (List Int)) (us : List Value) (c : Nat) : Prop where
  bel : Below W0.heap.size W0 W
  op : OP W W0.heap.size (.slice (some ⟨gb, 0, none⟩) p.length p.length) us
  lo : ∀ (i : Nat) u l, i < c → us[i]? = some u → p[i]? = some l → RI D W u l
  hi : ∀ i, c < i → i < p.length → us[i]? = some (.slice none 0 0)
  dl : ∀ g, D g → g < W0.heap.size
section
variable {W0 W W' : World} {gb c : Nat} {D : Nat → Prop} {p : List (List Int)} {us : List Value}
theorem Bq.new (W0 : World) (hm : p.length ≤ 1000) (hD : ∀ g, D g → g < W0.heap.size) : Bq W0 (W0.alloc (.cells (Array.replicate p.length (Value.slice none 0 0)) 36)) W0.heap.size D p (List.replicate p.length (Value.slice none 0 0)) 0 := by
  refine ⟨(Below.refl _ _).alloc (Nat.le_refl _) _, ?_, fun i u l h => by omega, fun i _ h => by rw [List.getElem?_replicate, if_pos h], hD⟩
  have := World.ownsRow_lit (e := 36) (size := 1) (base := W0.heap.size) W0 (Array.replicate p.length (Value.slice none 0 0)) p.length (Nat.le_refl _) (by unfold maxLen; omega) (by simp)
  unfold OP
  simpa using this
theorem Bq.len (h : Bq W0 W gb D p us c) : us.length = p.length := h.op.len.symm
theorem Bq.cell (h : Bq W0 W gb D p us c) {i : Nat} (hi : i < p.length) : ∃ u, W.cell? ⟨gb, i, none⟩ = some u := by
  have hu : us[i]? = some (us[i]'(by rw [h.len]; exact hi)) := List.getElem?_eq_getElem _
  exact ⟨_, h.op.cell hu⟩
theorem Bq.below' (h : Bq W0 W gb D p us c) (hb : Below W.heap.size W W') : Bq W0 W' gb D p us c :=
  ⟨below_class h.bel hb, h.op.below' hb, fun i u l h1 h2 h3 => (h.lo i u l h1 h2 h3).below' hb, h.hi, h.dl⟩
theorem Bq.set (h : Bq W0 W gb D p us c) (i : Nat) (u : Value) {v : Value} {l : List Int} (hv : RI D W v l) : RI D (W.setCell ⟨gb, i, none⟩ u) v l := by
  have hg := (h.op.lt gb rfl).1
  exact hv.keep (by simp [World.setCell]) fun g hd _ => Below.heap_setCell _ _ _ _ (by have := h.dl g hd; show g ≠ gb; omega)
/-- the list of the car c is another one -/
theorem Bq.put (h : Bq W0 W gb D p us c) (u : Value) : Bq W0 (W.setCell ⟨gb, c, none⟩ u) gb D p (us.set c u) c :=
  ⟨h.bel.setCell (p := ⟨gb, c, none⟩) (h.op.lt gb rfl).1 u, h.op.put c u, fun i v l h1 h2 h3 => by
    rw [List.getElem?_set_ne (by omega)] at h2
    exact h.set c u (h.lo i v l h1 h2 h3), fun i h1 h2 => by rw [List.getElem?_set_ne (by omega)]; exact h.hi i h1 h2, h.dl⟩
/-- one list more -/
theorem Bq.next (h : Bq W0 W gb D p us c) {u : Value} {l : List Int} (hl : p[c]? = some l) (hu : RI D W u l) : Bq W0 (W.setCell ⟨gb, c, none⟩ u) gb D p (us.set c u) (c + 1) := by
  have h' := h.put u
  refine ⟨h'.bel, h'.op, fun i v m h1 h2 h3 => ?_, fun i h1 h2 => h'.hi i (by omega) h2, h.dl⟩
  by_cases e : i = c
  · subst e
    rw [List.getElem?_set_self (by rw [h.len]; exact (List.getElem?_eq_some_iff.1 hl).1)] at h2
    rw [hl] at h3
    cases h2
    cases h3
    exact h.set i _ hu
  · exact h'.lo i v m (by omega) h2 h3
/-- the beginning, as a plan -/
theorem Bq.rl (h : Bq W0 W gb D p us c) (hc : c < p.length) {u : Value} {l : List Int} {j : Nat} (hl : p[c]? = some l) (hu : RI D W u (l.take j)) : RL (fun _ => True) (W.setCell ⟨gb, c, none⟩ u) (.slice (some ⟨gb, 0, none⟩) p.length p.length) (cutp p c j) := by
  have h' := h.put u
  have hlen := h'.len
  have hop := h'.op
  rw [← hlen] at hop ⊢
  have hop' : OP (W.setCell ⟨gb, c, none⟩ u) W0.heap.size (.slice (some ⟨gb, 0, none⟩) (us.set c u).length (us.set c u).length) (us.set c u) := hop
  refine hop'.rl (D := fun _ => True) trivial (by rw [hlen, cutp_length j hc]) fun i v m hv hm => ?_
  have hip : i < p.length := by have := (List.getElem?_eq_some_iff.1 hv).1; omega
  rcases Nat.lt_trichotomy i c with e | e | e
  · rw [cutp_lo hc e] at hm
    exact (h'.lo i v m e hv hm).mono fun _ _ _ _ => trivial
  · subst e
    rw [cutp_at hc, hl] at hm
    rw [List.getElem?_set_self (by rw [h.len]; exact hc)] at hv
    simp only [Option.getD_some, Option.some.injEq] at hm
    cases hv
    subst hm
    exact (h.set i _ hu).mono fun _ _ _ _ => trivial
  · rw [cutp_hi hc e hip] at hm
    rw [h'.hi i e hip] at hv
    cases hv
    cases hm
    exact RI.nil _ _
end
end Go.Proofs.Ytkcppidmbojglag
