/- Rows of pairs that are owned: cars, wants. -/
import Derived.Test.YtkcppidmbojglafApR
namespace Go.Proofs.Ytkcppidmbojglaf
open Go.RowKit

/-- the cells of pairs -/
def pc (l : List (Int × Int)) : List Value := l.flatMap fun y => [.int .i64 y.1, .int .i64 y.2]
theorem pc_nil : pc [] = [] := rfl
theorem pc_cons (y : Int × Int) (l : List (Int × Int)) : pc (y :: l) = .int .i64 y.1 :: .int .i64 y.2 :: pc l := rfl
theorem pc_length : ∀ (l : List (Int × Int)), (pc l).length = l.length * 2
  | [] => rfl
  | y :: l => by rw [pc_cons, List.length_cons, List.length_cons, pc_length l, List.length_cons]; omega
theorem pc_append (l m : List (Int × Int)) : pc (l ++ m) = pc l ++ pc m := by unfold pc; rw [List.flatMap_append]
theorem pc_one (l : List (Int × Int)) : ∀ u ∈ pc l, u.oneCell' = true := fun u hu => by
  obtain ⟨y, _, h⟩ := List.mem_flatMap.1 hu
  simp at h
  rcases h with rfl | rfl <;> rfl
theorem pc_get0 {y : Int × Int} : ∀ {l : List (Int × Int)} {i : Nat}, l[i]? = some y → (pc l)[i * 2]? = some (.int .i64 y.1)
  | [], _, h => by simp at h
  | z :: l, 0, h => by simp at h; subst h; rfl
  | z :: l, i + 1, h => by
    rw [pc_cons, show (i + 1) * 2 = i * 2 + 1 + 1 by omega, List.getElem?_cons_succ, List.getElem?_cons_succ]
    exact pc_get0 (by simpa using h)
theorem pc_get1 {y : Int × Int} : ∀ {l : List (Int × Int)} {i : Nat}, l[i]? = some y → (pc l)[i * 2 + 1]? = some (.int .i64 y.2)
  | [], _, h => by simp at h
  | z :: l, 0, h => by simp at h; subst h; rfl
  | z :: l, i + 1, h => by
    rw [pc_cons, show (i + 1) * 2 + 1 = (i * 2 + 1) + 1 + 1 by omega, List.getElem?_cons_succ, List.getElem?_cons_succ]
    exact pc_get1 (by simpa using h)
theorem pc_set1 {y : Int × Int} {x : Int} : ∀ {l : List (Int × Int)} {i : Nat}, l[i]? = some y → (pc l).set (i * 2 + 1) (.int .i64 x) = pc (l.set i (y.1, x))
  | [], _, h => by simp at h
  | z :: l, 0, h => by simp at h; subst h; rfl
  | z :: l, i + 1, h => by
    rw [pc_cons, show (i + 1) * 2 + 1 = (i * 2 + 1) + 1 + 1 by omega, List.set_cons_succ, List.set_cons_succ, pc_set1 (by simpa using h), List.set_cons_succ, pc_cons]
/-- a slice of pairs that reads as l at each of its cells -/
theorem R2.cells {D : Nat → Prop} {W : World} {ad : Addr} {n cap : Nat} {l : List (Int × Int)} (h : R2 D W (.slice (some ad) n cap) l) : ∀ (j : Nat) u, (pc l)[j]? = some u → W.cell? (ad.add j) = some u := fun j u hu => by
  have hj : j < l.length * 2 := by have := (List.getElem?_eq_some_iff.1 hu).1; rwa [pc_length] at this
  obtain ⟨y, hy⟩ : ∃ y, l[j / 2]? = some y := ⟨_, List.getElem?_eq_getElem (by omega)⟩
  obtain ⟨g, o, e, h1, h2⟩ := h.at hy
  cases e
  rw [Addr.add_mid]
  by_cases hm : j % 2 = 0
  · have e1 : j / 2 * 2 = j := by omega
    have := pc_get0 hy
    rw [e1, hu] at this
    cases this
    rw [e1] at h1; exact h1
  · have e1 : j / 2 * 2 + 1 = j := by omega
    have := pc_get1 hy
    rw [e1, hu] at this
    cases this
    rw [Nat.add_assoc, e1] at h2; exact h2
/-- a row of pairs that is owned -/
def O2 (t : TypeId) (W : World) (B : Nat) (v : Value) (l : List (Int × Int)) : Prop := W.ownsRow B t 2 v l.length (pc l)
section
variable {t : TypeId} {W W' : World} {B : Nat} {v : Value} {l : List (Int × Int)}
theorem O2.lt (h : O2 t W B v l) : ∀ g, v.ownBlock = some g → B ≤ g ∧ g < W.heap.size := World.ownsRow.lt h
theorem O2.keep (h : O2 t W B v l) (hk : ∀ g, v.ownBlock = some g → W'.heap[g]? = W.heap[g]?) : O2 t W' B v l := by
  refine ⟨h.1, ?_⟩
  rcases h.2 with h1 | ⟨g, cap, cur, hv, hb, hg, hc⟩
  · exact .inl h1
  · exact .inr ⟨g, cap, cur, hv, hb, (hk g (by rw [hv]; rfl)).trans hg, hc⟩
theorem O2.below' (h : O2 t W B v l) (hb : Below W.heap.size W W') : O2 t W' B v l := h.keep fun g hg => hb.block g (h.lt g hg).2
theorem O2.form (h : O2 t W B v l) : (v = .slice none 0 0 ∧ l = []) ∨ ∃ g cap, v = .slice (some ⟨g, 0, none⟩) l.length cap ∧ B ≤ g ∧ g < W.heap.size ∧ l.length ≤ cap := by
  rcases h.2 with ⟨h1, h2⟩ | ⟨g, cap, cur, hv, hb, hg, hc, _⟩
  · exact .inl ⟨h1, List.length_eq_zero_iff.1 h2⟩
  · exact .inr ⟨g, cap, hv, hb, (Array.getElem?_eq_some_iff.1 hg).1, hc⟩
theorem O2.cell0 {g cap n i : Nat} {y : Int × Int} (h : O2 t W B (.slice (some ⟨g, 0, none⟩) n cap) l) (hi : l[i]? = some y) : W.cell? ⟨g, i * 2, none⟩ = some (.int .i64 y.1) := by
  have := World.ownsRow.cells h (g := g) rfl _ _ (pc_get0 hi)
  rwa [Addr.add_mid, Nat.zero_add] at this
theorem O2.cell1 {g cap n i : Nat} {y : Int × Int} (h : O2 t W B (.slice (some ⟨g, 0, none⟩) n cap) l) (hi : l[i]? = some y) : W.cell? ⟨g, i * 2 + 1, none⟩ = some (.int .i64 y.2) := by
  have := World.ownsRow.cells h (g := g) rfl _ _ (pc_get1 hi)
  rwa [Addr.add_mid, Nat.zero_add] at this
theorem O2.r2 {D : Nat → Prop} (h : O2 t W B v l) (hD : ∀ g, v.ownBlock = some g → D g) : R2 D W v l := by
  rcases h.form with ⟨rfl, rfl⟩ | ⟨g, cap, rfl, hB, hlt, hc⟩
  · exact ⟨none, 0, rfl, Nat.le_refl _, fun _ => rfl, .inl rfl⟩
  · exact ⟨_, cap, rfl, hc, (fun e => by cases e), .inr ⟨g, 0, rfl, hD g rfl, hlt, fun i y hy => ⟨by rw [Nat.zero_add]; exact h.cell0 hy, by rw [Nat.zero_add]; exact h.cell1 hy⟩⟩⟩
theorem O2.len {a : Option Addr} {n cap : Nat} (h : O2 t W B (.slice a n cap) l) : n = l.length := by
  rcases h.form with ⟨h1, h2⟩ | ⟨g, c, h1, _⟩
  · cases h1; rw [h2]; rfl
  · cases h1; rfl
theorem O2.fr {g cap n : Nat} (h : O2 t W B (.slice (some ⟨g, 0, none⟩) n cap) l) (j : Nat) : W.frozen? ⟨g, j, none⟩ = false := by
  have hn := h.len
  subst hn
  exact World.ownsRow.frozenAt h j
/-- a second number is written -/
theorem O2.put1 {g cap n i : Nat} {y : Int × Int} (h : O2 t W B (.slice (some ⟨g, 0, none⟩) n cap) l) (hi : l[i]? = some y) (x : Int) : O2 t (W.setCell ⟨g, i * 2 + 1, none⟩ (.int .i64 x)) B (.slice (some ⟨g, 0, none⟩) n cap) (l.set i (y.1, x)) := by
  have hn := h.len
  subst hn
  have := (World.ownsRow.stored h (i * 2 + 1) (.int .i64 x)).1
  rw [pc_set1 hi] at this
  unfold O2
  rw [List.length_set]
  exact this
theorem O2.nil (W : World) (hB : B ≤ W.heap.size) : O2 t (W.alloc (.cells #[] t)) B (.slice (some ⟨W.heap.size, 0, none⟩) 0 0) [] :=
  World.ownsRow_lit (e := t) (size := 2) W #[] 0 hB (by unfold maxLen; omega) (by simp)
theorem O2.some (h : O2 t W B v l) (hn : 0 < l.length) : ∃ g cap, v = .slice (some ⟨g, 0, none⟩) l.length cap ∧ B ≤ g := by
  rcases h.form with ⟨_, e⟩ | ⟨g, cap, hv, hB, _⟩
  · rw [e] at hn; simp at hn
  · exact ⟨g, cap, hv, hB⟩
end
/-- pairs are put behind a row of pairs -/
theorem wpList_append2 {ops : Array Oper} {rest : List Oper} {o : Oper} {a : Act} {w : World} {Q : Exit → Act → World → Prop} (e t : TypeId) (ht : Try.prog.underlying t = some (.slice e))
    (hinfo : (Try.prog.info? e).map (fun i => (i.zero, i.size, i.bytes)) = some (some (.agg #[.int .i64 0, .int .i64 0]), 2, 16)) (hgd : o.guard = none) (s x : Operand)
    (ho : o.op = .call { callee := .builtin .append, args := #[s, x], argTypes := #[t, t] })
    (B : Nat) (v u : Value) (l m : List (Int × Int)) (D : Nat → Prop) (hs : a.eval s = v) (hown : O2 e w B v l) (hx : a.eval x = u) (hr : R2 D w u m)
    (h63 : l.length + m.length ≤ 1000000) (hB : B ≤ w.heap.size)
    (h : ∀ v' w', O2 e w' B v' (l ++ m) → w.grownBy w' v.ownBlock → wpList Try.prog ops Q rest (a.put o.dst v') w') : wpList Try.prog ops Q (o :: rest) a w := by
  obtain ⟨ao, cap, rfl, hc, hn⟩ := hr.form
  obtain ⟨i0, hi, hz⟩ := Option.map_eq_some_iff.1 hinfo
  simp only [Prod.mk.injEq] at hz
  obtain ⟨hz0, hz1, hz2⟩ := hz
  cases ao with
  | none =>
    obtain rfl : cap = 0 := hn rfl
    obtain rfl : m = [] := List.length_eq_zero_iff.1 (by omega)
    refine wpList_append_own_none hgd s x t ho B e i0 2 ht hi v l.length (pc l) hs hown (by rw [hx]; rfl) ?_
    refine h v w ?_ (World.grownBy.refl w _)
    rw [List.append_nil]; exact hown
  | some ad =>
    refine wpList_append_own w hgd s x t ho B e i0 _ 2 16 ht hi hz0 hz1 hz2 rfl (by decide) v l.length (pc l) hs hown ad m.length cap (pc m) hx (pc_length m) hr.cells (pc_one m) (by unfold maxLen; omega) (by omega) hB ?_
    intro v' w' h1 h2 _
    refine h v' w' ?_ h2
    unfold O2
    rw [List.length_append, pc_append]
    exact h1

end Go.Proofs.Ytkcppidmbojglaf
