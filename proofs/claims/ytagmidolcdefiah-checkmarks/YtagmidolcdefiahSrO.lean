/- Rows of bytes put behind one another; structs that are built. -/
import Derived.Test.YtagmidolcdefiahPk9
namespace Go.Proofs.Ytagmidolcdefiah
open Go.RowKit Go.Shelf
theorem OY.len {W : World} {B : Nat} {l : List Nat} {a : Option Addr} {n cap : Nat} (h : OY W B (.slice a n cap) l) : n = l.length := by
  rcases h.form with ⟨h1, h2⟩ | ⟨g, c, h1, _⟩
  · cases h1; rw [h2]; rfl
  · cases h1; rfl
theorem wpList_appYs {ops : Array Oper} {rest : List Oper} {o : Oper} {a : Act} {w : World} {Q : Exit → Act → World → Prop} (hgd : o.guard = none) (s x : Operand)
    (ho : o.op = .call { callee := .builtin .append, args := #[s, x], argTypes := #[33, 33] })
    (B : Nat) (v : Value) (l : List Nat) (hs : a.eval s = v) (hown : OY w B v l) (g c : Nat) (m : List Nat) (hx : a.eval x = .slice (some ⟨g, 0, none⟩) m.length c) (hc : ∀ (j : Nat) y, m[j]? = some y → w.cell? ⟨g, j, none⟩ = some (.int .u8 (y : Int)))
    (h63 : l.length + m.length ≤ 4000000) (hB : B ≤ w.heap.size)
    (h : ∀ v' w', OY w' B v' (l ++ m) → w.grownBy w' v.ownBlock → wpList Try.prog ops Q rest (a.put o.dst v') w') : wpList Try.prog ops Q (o :: rest) a w := by
  obtain ⟨i0, hi, hz0, hz1, hz2⟩ := info_parts infoY
  refine wpList_append_own w hgd s x 33 ho B 5 i0 _ 1 1 Try.underlying33 hi hz0 hz1 hz2 rfl (by decide) v l.length (yc l) hs hown ⟨g, 0, none⟩ m.length c (yc m) hx (by rw [yc_length, Nat.mul_one]) ?_ (yc_one m) (by unfold maxLen; omega) (by omega) hB ?_
  · intro j u hj
    obtain ⟨y, hy, rfl⟩ := yc_get hj
    rw [Addr.add_mid, Nat.zero_add]
    exact hc j y hy
  · intro v' w' h1 h2 _
    refine h v' w' ?_ h2
    unfold OY
    rw [List.length_append, yc_append]
    exact h1
theorem wpList_appYo {ops : Array Oper} {rest : List Oper} {o : Oper} {a : Act} {w : World} {Q : Exit → Act → World → Prop} (hgd : o.guard = none) (s x : Operand)
    (ho : o.op = .call { callee := .builtin .append, args := #[s, x], argTypes := #[33, 33] })
    (B B' : Nat) (v u : Value) (l m : List Nat) (hs : a.eval s = v) (hown : OY w B v l) (hx : a.eval x = u) (hr : OY w B' u m)
    (h63 : l.length + m.length ≤ 4000000) (hB : B ≤ w.heap.size)
    (h : ∀ v' w', OY w' B v' (l ++ m) → w.grownBy w' v.ownBlock → wpList Try.prog ops Q rest (a.put o.dst v') w') : wpList Try.prog ops Q (o :: rest) a w := by
  rcases hr.form with ⟨rfl, rfl⟩ | ⟨g, cap, rfl, _⟩
  · obtain ⟨i0, hi, hz0, hz1, hz2⟩ := info_parts infoY
    refine wpList_append_own_none hgd s x 33 ho B 5 i0 1 Try.underlying33 hi v l.length (yc l) hs hown hx ?_
    refine h v w ?_ (World.grownBy.refl w _)
    rw [List.append_nil]; exact hown
  · exact wpList_appYs hgd s x ho B v l hs hown g cap m hx (fun j y hy => hr.cell hy) h63 hB h
theorem OY.fr {W : World} {B : Nat} {l : List Nat} {g cap n : Nat} (h : OY W B (.slice (some ⟨g, 0, none⟩) n cap) l) (j : Nat) : W.frozen? ⟨g, j, none⟩ = false := by
  have hn := h.len
  subst hn
  exact World.ownsRow.frozenAt h j
theorem OY.put {W : World} {B : Nat} {l : List Nat} {g cap n : Nat} (h : OY W B (.slice (some ⟨g, 0, none⟩) n cap) l) (i x : Nat) : OY (W.setCell ⟨g, i, none⟩ (.int .u8 (x : Int))) B (.slice (some ⟨g, 0, none⟩) n cap) (l.set i x) := by
  have hn := h.len
  subst hn
  have := (World.ownsRow.stored h i (.int .u8 (x : Int))).1
  unfold OY
  unfold yc at this ⊢
  rw [List.length_set, List.map_set]
  exact this
theorem wpList_buildS {ops : Array Oper} {rest : List Oper} {o : Oper} {a : Act} {w : World} {Q : Exit → Act → World → Prop} (hg : o.guard = none) (t : TypeId) (parts : Array (Nat × Operand)) (ho : o.op = .build t parts) (ps : List (Nat × Value)) (hp : (parts.map fun (i, x) => (i, a.eval x)).toList = ps) (cells : Array Value) (hb : Try.prog.built t ps = some cells)
    (h : wpList Try.prog ops Q rest (a.put o.dst (.agg cells)) w) : wpList Try.prog ops Q (o :: rest) a w := by
  refine wpList_build hg t parts ho (by rw [hp, hb]; rfl) ?_
  rw [hp, hb]
  exact h
end Go.Proofs.Ytagmidolcdefiah
