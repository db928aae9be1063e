/- The rule's plan, as the document makes it. -/
import Derived.Test.YtdfdkddjkhcgdaiRuF
import Derived.Test.YtdfdkddjkhcgdaiPk6
namespace Go.Proofs.Ytdfdkddjkhcgdai
open Go.RowKit Go.Shelf

/-- the rule's plan on its way: the first cars' lists, this car's so far, none behind -/
def rpw (s : Sn) (c : Nat) (l : List Int) : List (List Int) := rpl s c ++ (l :: List.replicate (s.cs.length - (c + 1)) [])
section
variable {s : Sn} {c : Nat} {l : List Int}
theorem rpw_length (h : c < s.cs.length) : (rpw s c l).length = s.cs.length := by
  unfold rpw
  rw [List.length_append, List.length_cons, List.length_replicate, rpl_length]
  omega
theorem rpw_get : (rpw s c l)[c]? = some l := by
  unfold rpw
  rw [List.getElem?_append_right (by rw [rpl_length]; exact Nat.le_refl _), rpl_length, Nat.sub_self]
  rfl
theorem rpw_add (x : Int) : PM.add (rpw s c l) c x = rpw s c (l ++ [x]) := by
  unfold PM.add
  rw [rpw_get, Option.getD_some]
  unfold rpw
  rw [List.set_append_right _ _ (by rw [rpl_length]; exact Nat.le_refl _), rpl_length, Nat.sub_self]
  rfl
/-- as far as the first c cars -/
def rpx (s : Sn) (c : Nat) : List (List Int) := rpl s c ++ List.replicate (s.cs.length - c) []
theorem rpx_zero : rpx s 0 = List.replicate s.cs.length [] := by unfold rpx rpl; simp
theorem rpx_end : rpx s s.cs.length = rpl s s.cs.length := by unfold rpx; simp
theorem rpx_in (h : c < s.cs.length) : rpx s c = rpw s c [] := by
  unfold rpx rpw
  rw [show s.cs.length - c = (s.cs.length - (c + 1)) + 1 by omega, List.replicate_succ]
theorem rpx_next : rpw s c (rls s c s.st.fl.toNat) = rpx s (c + 1) := by
  unfold rpx rpw
  have : rpl s (c + 1) = rpl s c ++ [rls s c s.st.fl.toNat] := by unfold rpl; rw [List.range_succ, List.map_append]; rfl
  rw [this, List.append_assoc]
  rfl
theorem rlk_len (c d k : Nat) : (rlk s c d k).length ≤ k := by
  unfold rlk
  rw [List.length_map]
  exact Nat.le_trans (List.length_filter_le _ _) (by simp)
end
theorem rls_len {s : Sn} (c : Nat) : ∀ d, (rls s c d).length ≤ d * s.ws.length
  | 0 => by rw [rls_zero]; simp
  | d + 1 => by
    rw [rls_succ, List.length_append, Nat.add_mul, Nat.one_mul]
    have h1 := rls_len (s := s) c d
    have h2 := rlk_len (s := s) c d s.ws.length
    omega
/-- while it is made -/
structure Rpq (w W : World) (s : Sn) (vc vw : Value) (g : Nat) (us : List Value) (p : List (List Int)) : Prop where
  nb : NB W w.heap.size s.st vc vw
  ow : OW W (w.heap.size + 1) g us p
  bel : Below w.heap.size w W
section
variable {w W W' : World} {s : Sn} {vc vw : Value} {g : Nat} {us : List Value} {p : List (List Int)}
theorem Rpq.next (h : Rpq w W s vc vw g us p) (hb : Below W.heap.size W W') : Rpq w W' s vc vw g us p := ⟨h.nb.below' hb, h.ow.next hb, below_class h.bel hb⟩
theorem Rpq.add (h : Rpq w W s vc vw g us p) {c : Nat} {u u' : Value} {l : List Int} {x : Int} (hu : us[c]? = some u) (hl : p[c]? = some l) (hg : W.grownBy W' u.ownBlock) {q : Nat} (hq : u'.ownBlock = some q) (hor : u.ownBlock = some q ∨ q = W.heap.size) (ho : OI W' (w.heap.size + 1) u' (l ++ [x])) : Rpq w (W'.setCell ⟨g, c, none⟩ u') s vc vw g (us.set c u') (PM.add p c x) := by
  have ou := h.ow.li c u l hu hl
  have hs := h.bel.size
  have h1 := h.nb.lt
  have h2 := h.ow.bg
  refine ⟨?_, h.ow.add hu hl hg hq hor ho, ?_⟩
  · unfold NB
    rw [Below.heap_setCell W' ⟨g, c, none⟩ _ _ (by show w.heap.size ≠ g; omega), hg.block _ h1 (fun e => by have := (ou.lt _ e.symm).1; omega)]
    exact h.nb
  · exact (h.bel.grown hg hs (fun j hj => by have := (ou.lt j hj).1; omega)).setCell (p := ⟨g, c, none⟩) (by show w.heap.size ≤ g; omega) _
end

end Go.Proofs.Ytdfdkddjkhcgdai
