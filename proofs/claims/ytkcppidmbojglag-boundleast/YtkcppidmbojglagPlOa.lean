/- Rows that grow, in blocks of their own: numbers, and lists of numbers. -/
import Derived.Test.YtkcppidmbojglagBas
import Derived.Test.YtkcppidmbojglagPlOm
namespace Go.Proofs.Ytkcppidmbojglag
open Go.RowKit Go.Shelf

/-- a row of slices that is owned -/
def OP (W : World) (B : Nat) (v : Value) (us : List Value) : Prop := W.ownsRow B 36 1 v us.length us
section
variable {W W' : World} {B : Nat} {v : Value} {us : List Value}
theorem OP.lt (h : OP W B v us) : ∀ g, v.ownBlock = some g → B ≤ g ∧ g < W.heap.size := World.ownsRow.lt h
theorem OP.keep (h : OP W B v us) (hk : ∀ g, v.ownBlock = some g → W'.heap[g]? = W.heap[g]?) : OP W' B v us := by
  refine ⟨h.1, ?_⟩
  rcases h.2 with h1 | ⟨g, cap, cur, hv, hb, hg, hc⟩
  · exact .inl h1
  · exact .inr ⟨g, cap, cur, hv, hb, (hk g (by rw [hv]; rfl)).trans hg, hc⟩
theorem OP.below' (h : OP W B v us) (hb : Below W.heap.size W W') : OP W' B v us := h.keep fun g hg => hb.block g (h.lt g hg).2
theorem OP.cell {g cap n : Nat} (h : OP W B (.slice (some ⟨g, 0, none⟩) n cap) us) {i : Nat} {u : Value} (hi : us[i]? = some u) : W.cell? ⟨g, i, none⟩ = some u := by
  have := World.ownsRow.cells h (g := g) rfl i u hi
  rwa [Addr.add_mid, Nat.zero_add] at this
/-- an owned row of lists that are read is a plan -/
theorem OP.rl {D : Nat → Prop} {g cap : Nat} {p : List (List Int)} (h : OP W B (.slice (some ⟨g, 0, none⟩) us.length cap) us) (hD : D g) (hlen : us.length = p.length) (hr : ∀ (i : Nat) u l, us[i]? = some u → p[i]? = some l → RI D W u l) : RL D W (.slice (some ⟨g, 0, none⟩) us.length cap) p := by
  have hlt := (h.lt g rfl).2
  have hcap : us.length ≤ cap := by
    rcases h.2 with ⟨h1, _⟩ | ⟨g', cap', cur, hv, _, _, hc, _⟩
    · cases h1
    · cases hv; exact hc
  refine ⟨_, cap, by rw [hlen], by omega, (fun e => by cases e), ?_⟩
  by_cases hp : p = []
  · exact .inl hp
  · refine .inr ⟨g, 0, rfl, hD, hlt, fun i l hl => ?_⟩
    have hi : i < us.length := by rw [hlen]; exact (List.getElem?_eq_some_iff.1 hl).1
    refine ⟨us[i], ?_, hr i _ l (List.getElem?_eq_getElem hi) hl⟩
    rw [Nat.zero_add]
    exact h.cell (List.getElem?_eq_getElem hi)
end
theorem infoP : (Try.prog.info? 36).map (fun i => (i.zero, i.size, i.bytes)) = some (some (.slice none 0 0), 1, 24) := by kernel_rfl
/-- a list is put behind a row of lists -/
theorem wpList_appP {ops : Array Oper} {rest : List Oper} {o : Oper} {a : Act} {w : World} {Q : Exit → Act → World → Prop} (hgd : o.guard = none) (s x : Operand)
    (ho : o.op = .call { callee := .builtin .append, args := #[s, x], argTypes := #[29, 29] })
    (B : Nat) (v : Value) (us : List Value) (hs : a.eval s = v) (hown : OP w B v us) (g c : Nat) (u : Value) (hx : a.eval x = .slice (some ⟨g, 0, none⟩) 1 c) (hc : w.cell? ⟨g, 0, none⟩ = some u) (hu : u.oneCell' = true)
    (h63 : us.length ≤ 1000000) (hB : B ≤ w.heap.size)
    (h : ∀ g' cap w', OP w' B (.slice (some ⟨g', 0, none⟩) (us.length + 1) cap) (us ++ [u]) → w.grownBy w' v.ownBlock → (v.ownBlock = some g' ∨ g' = w.heap.size) → g' < w'.heap.size → wpList Try.prog ops Q rest (a.put o.dst (.slice (some ⟨g', 0, none⟩) (us.length + 1) cap)) w') : wpList Try.prog ops Q (o :: rest) a w := by
  obtain ⟨i0, hi, hz0, hz1, hz2⟩ := info_parts infoP
  refine wpList_append_lies w hgd s x 29 ho B 36 i0 _ 1 24 Try.underlying29 hi hz0 hz1 hz2 rfl (by decide) v us.length us hs hown ⟨g, 0, none⟩ 1 c [u] hx rfl ?_ ?_ (by omega) (by unfold maxLen; omega) (by omega) hB w.heap.size rfl ?_
  · intro j y hj
    cases j with
    | zero => simp at hj; subst hj; rw [Addr.add_mid]; exact hc
    | succ j => simp at hj
  · intro y hy
    simp at hy
    subst hy
    exact hu
  · intro g' cap w' h1 h2 h3 h4
    refine h g' cap w' ?_ h2 h3 h4
    unfold OP
    rw [List.length_append]
    exact h1
/-- a number is put behind a row of numbers -/
theorem wpList_appI {ops : Array Oper} {rest : List Oper} {o : Oper} {a : Act} {w : World} {Q : Exit → Act → World → Prop} (hgd : o.guard = none) (s x : Operand)
    (ho : o.op = .call { callee := .builtin .append, args := #[s, x], argTypes := #[36, 36] })
    (B : Nat) (v : Value) (l : List Int) (hs : a.eval s = v) (hown : OI w B v l) (g c : Nat) (y : Int) (hx : a.eval x = .slice (some ⟨g, 0, none⟩) 1 c) (hc : w.cell? ⟨g, 0, none⟩ = some (.int .i64 y))
    (h63 : l.length ≤ 1000000) (hB : B ≤ w.heap.size)
    (h : ∀ g' cap w', OI w' B (.slice (some ⟨g', 0, none⟩) (l.length + 1) cap) (l ++ [y]) → w.grownBy w' v.ownBlock → (v.ownBlock = some g' ∨ g' = w.heap.size) → g' < w'.heap.size → wpList Try.prog ops Q rest (a.put o.dst (.slice (some ⟨g', 0, none⟩) (l.length + 1) cap)) w') : wpList Try.prog ops Q (o :: rest) a w := by
  obtain ⟨i0, hi, hz0, hz1, hz2⟩ := info_parts infoI
  refine wpList_append_lies w hgd s x 36 ho B 3 i0 _ 1 8 Try.underlying36 hi hz0 hz1 hz2 rfl (by decide) v l.length (ic l) hs hown ⟨g, 0, none⟩ 1 c (ic [y]) hx rfl ?_ (ic_one [y]) (by omega) (by unfold maxLen; omega) (by omega) hB w.heap.size rfl ?_
  · intro j u hj
    cases j with
    | zero =>
      simp [ic] at hj
      subst hj
      rw [Addr.add_mid]; exact hc
    | succ j => simp [ic] at hj
  · intro g' cap w' h1 h2 h3 h4
    refine h g' cap w' ?_ h2 h3 h4
    unfold OI
    rw [List.length_append, ic_append]
    exact h1

theorem list_of' {α : Type} {P : Nat → α → Prop} : ∀ (n : Nat), (∀ i, i < n → ∃ z, P i z) → ∃ l : List α, l.length = n ∧ ∀ (i : Nat) z, l[i]? = some z → P i z
  | 0, _ => ⟨[], rfl, by simp⟩
  | n + 1, h => by
    obtain ⟨l, h1, h2⟩ := list_of' n (fun i hi => h i (by omega))
    obtain ⟨z, hz⟩ := h n (by omega)
    refine ⟨l ++ [z], by simp [h1], fun i x hx => ?_⟩
    by_cases hi : i < l.length
    · rw [List.getElem?_append_left hi] at hx; exact h2 i x hx
    · rw [List.getElem?_append_right (by omega)] at hx
      have hi0 : i - l.length = 0 := by
        have := (List.getElem?_eq_some_iff.1 hx).1
        simp at this
        omega
      rw [hi0] at hx
      simp at hx
      subst hx
      have : i = n := by omega
      subst this
      exact hz
section
variable {W W' : World} {B : Nat} {v : Value} {us : List Value}
theorem OP.nil (W : World) (hB : B ≤ W.heap.size) : OP (W.alloc (.cells #[] 36)) B (.slice (some ⟨W.heap.size, 0, none⟩) 0 0) [] :=
  World.ownsRow_lit (e := 36) (size := 1) W #[] 0 hB (by unfold maxLen; omega) (by simp)
theorem OP.len {a : Option Addr} {n cap : Nat} (h : OP W B (.slice a n cap) us) : n = us.length := by
  rcases h.2 with ⟨h1, h2⟩ | ⟨g, c, cur, h1, _⟩
  · cases h1; omega
  · cases h1; rfl
theorem OP.fr {g cap n : Nat} (h : OP W B (.slice (some ⟨g, 0, none⟩) n cap) us) (j : Nat) : W.frozen? ⟨g, j, none⟩ = false := by
  have hn := h.len
  subst hn
  exact World.ownsRow.frozenAt h j
/-- a list is written -/
theorem OP.put {g cap n : Nat} (h : OP W B (.slice (some ⟨g, 0, none⟩) n cap) us) (i : Nat) (u : Value) : OP (W.setCell ⟨g, i, none⟩ u) B (.slice (some ⟨g, 0, none⟩) n cap) (us.set i u) := by
  have hn := h.len
  subst hn
  have := (World.ownsRow.stored h i u).1
  unfold OP
  rw [List.length_set]
  exact this
theorem OP.mono {B' : Nat} (h : OP W B v us) (hB : B' ≤ B) : OP W B' v us := by
  refine ⟨h.1, ?_⟩
  rcases h.2 with h1 | ⟨g, cap, cur, hv, hb, hg⟩
  · exact .inl h1
  · exact .inr ⟨g, cap, cur, hv, by omega, hg⟩
end
/-- the slices of a plan that is read -/
theorem RL.slices {D : Nat → Prop} {W : World} {a : Option Addr} {n cap : Nat} {p : List (List Int)} (h : RL D W (.slice a n cap) p) : ∃ us : List Value, us.length = p.length ∧ (∀ u ∈ us, u.oneCell' = true) ∧ (∀ (i : Nat) u l, us[i]? = some u → p[i]? = some l → RI D W u l) ∧ ∀ ad, a = some ad → ∀ (j : Nat) u, us[j]? = some u → W.cell? (ad.add j) = some u := by
  obtain ⟨us, h1, h2⟩ := list_of' (P := fun i u => ∀ l, p[i]? = some l → RI D W u l ∧ ∀ ad, a = some ad → W.cell? (ad.add i) = some u) p.length (fun i hi => by
    have hl : p[i]? = some p[i] := List.getElem?_eq_getElem hi
    obtain ⟨g, o, rfl, u, hu, hr⟩ := h.at hl
    refine ⟨u, fun l hl' => ?_⟩
    rw [hl] at hl'
    cases hl'
    exact ⟨hr, fun ad e => by cases e; rw [Addr.add_mid]; exact hu⟩)
  have key : ∀ (i : Nat) u, us[i]? = some u → ∃ l, p[i]? = some l ∧ RI D W u l ∧ ∀ ad, a = some ad → W.cell? (ad.add i) = some u := fun i u hu => by
    have hi : i < p.length := by rw [← h1]; exact (List.getElem?_eq_some_iff.1 hu).1
    exact ⟨p[i], List.getElem?_eq_getElem hi, h2 i u hu _ (List.getElem?_eq_getElem hi)⟩
  refine ⟨us, h1, fun u hu => ?_, fun i u l hu hl => (h2 i u hu l hl).1, fun ad e j u hu => ?_⟩
  · obtain ⟨i, hi⟩ := List.getElem?_of_mem hu
    obtain ⟨l, _, hr, _⟩ := key i u hi
    obtain ⟨a', c', rfl, _, _⟩ := hr.form
    rfl
  · obtain ⟨l, _, _, hc⟩ := key j u hu
    exact hc ad e
/-- a plan's lists are put behind an owned row of lists -/
theorem wpList_appPs {ops : Array Oper} {rest : List Oper} {o : Oper} {a : Act} {w : World} {Q : Exit → Act → World → Prop} (hgd : o.guard = none) (s x : Operand)
    (ho : o.op = .call { callee := .builtin .append, args := #[s, x], argTypes := #[29, 29] })
    (B : Nat) (v u : Value) (us : List Value) (p : List (List Int)) (D : Nat → Prop) (hs : a.eval s = v) (hown : OP w B v us) (hx : a.eval x = u) (hr : RL D w u p)
    (h63 : us.length + p.length ≤ 1000000) (hB : B ≤ w.heap.size)
    (h : ∀ v' w' us', us'.length = p.length → (∀ (i : Nat) u l, us'[i]? = some u → p[i]? = some l → RI D w u l) → OP w' B v' (us ++ us') → w.grownBy w' v.ownBlock → wpList Try.prog ops Q rest (a.put o.dst v') w') : wpList Try.prog ops Q (o :: rest) a w := by
  obtain ⟨ao, cap, rfl, hc, hn⟩ := hr.form
  obtain ⟨us', e1, e2, e3, e4⟩ := hr.slices
  obtain ⟨i0, hi, hz0, hz1, hz2⟩ := info_parts infoP
  cases ao with
  | none =>
    obtain rfl : cap = 0 := hn rfl
    have e0 : us' = [] := List.length_eq_zero_iff.1 (by omega)
    refine wpList_append_own_none hgd s x 29 ho B 36 i0 1 Try.underlying29 hi v us.length us hs hown (by rw [hx, show p.length = 0 by omega]) ?_
    refine h v w us' e1 e3 ?_ (World.grownBy.refl w _)
    rw [e0, List.append_nil]; exact hown
  | some ad =>
    refine wpList_append_own w hgd s x 29 ho B 36 i0 _ 1 24 Try.underlying29 hi hz0 hz1 hz2 rfl (by decide) v us.length us hs hown ad p.length cap us' hx (by rw [e1, Nat.mul_one]) (e4 ad rfl) e2 (by unfold maxLen; omega) (by omega) hB ?_
    intro v' w' h1 h2 _
    refine h v' w' us' e1 e3 ?_ h2
    unfold OP
    rw [List.length_append, e1]
    exact h1

end Go.Proofs.Ytkcppidmbojglag
