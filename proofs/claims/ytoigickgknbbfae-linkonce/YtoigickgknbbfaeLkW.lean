/- A row of numbers that a law has made, beside a link. -/
import Derived.Test.YtoigickgknbbfaeLkO
import Derived.Laws.OwnMore
import Derived.Deep.AppendLies
namespace Go.Proofs.Ytoigickgknbbfae
open Go.RowKit

/-- the cells of numbers -/
def ic (l : List Int) : List Value := l.map fun (n : Int) => Value.int .i64 n
theorem ic_length (l : List Int) : (ic l).length = l.length := by unfold ic; rw [List.length_map]
theorem ic_append (l m : List Int) : ic (l ++ m) = ic l ++ ic m := by unfold ic; rw [List.map_append]
theorem ic_some {l : List Int} {i : Nat} {x : Int} (h : l[i]? = some x) : (ic l)[i]? = some (.int .i64 x) := by
  unfold ic; rw [List.getElem?_map, h]; rfl
theorem ic_one (l : List Int) : ∀ u ∈ ic l, u.oneCell' = true := by
  intro u hu
  obtain ⟨n, _, rfl⟩ := List.mem_map.1 hu
  rfl
/-- a slice value that owns a row of numbers, in blocks from B on -/
def OI (W : World) (B : Nat) (v : Value) (l : List Int) : Prop := W.ownsRow B 3 1 v l.length (ic l)
section
variable {W W' : World} {B : Nat} {v : Value} {l : List Int}
theorem OI.form (h : OI W B v l) (hl : l ≠ []) : ∃ g cap, v = .slice (some ⟨g, 0, none⟩) l.length cap ∧ B ≤ g ∧ g < W.heap.size ∧ l.length ≤ cap ∧ cap ≤ maxLen := by
  rcases h.2 with ⟨h1, h2⟩ | ⟨g, cap, cur, hv, hb, hg, hc, hm, _⟩
  · exact absurd (List.length_eq_zero_iff.1 h2) hl
  · exact ⟨g, cap, hv, hb, (Array.getElem?_eq_some_iff.1 hg).1, hc, hm⟩
theorem OI.lt (h : OI W B v l) : ∀ g, v.ownBlock = some g → B ≤ g ∧ g < W.heap.size := World.ownsRow.lt h
theorem OI.keep (h : OI W B v l) (hk : ∀ g, v.ownBlock = some g → W'.heap[g]? = W.heap[g]?) : OI W' B v l := by
  refine ⟨h.1, ?_⟩
  rcases h.2 with h2 | ⟨g, cap, cur, hv, hb, hg, r⟩
  · exact .inl h2
  · exact .inr ⟨g, cap, cur, hv, hb, (hk g (by rw [hv]; rfl)).trans hg, r⟩
theorem OI.below' (h : OI W B v l) (hb : Below W.heap.size W W') : OI W' B v l := h.keep fun g hg => hb.block g (h.lt g hg).2
theorem OI.alloc (h : OI W B v l) (o : Obj) : OI (W.alloc o) B v l := h.below' ((Below.refl _ _).alloc (Nat.le_refl _) o)
theorem OI.cell {g cap n : Nat} (h : OI W B (.slice (some ⟨g, 0, none⟩) n cap) l) {i : Nat} {x : Int} (hi : l[i]? = some x) : W.cell? ⟨g, i, none⟩ = some (.int .i64 x) := by
  have := World.ownsRow.cells h (g := g) rfl i _ (ic_some hi)
  rwa [Addr.add_mid, Nat.zero_add] at this
/-- a slice of one number that was just typed -/
theorem OI.lit (W : World) (x : Int) (hB : B ≤ W.heap.size) : OI (W.alloc (.cells #[.int .i64 x] 3)) B (.slice (some ⟨W.heap.size, 0, none⟩) 1 1) [x] := by
  have := World.ownsRow_lit (e := 3) (size := 1) W (ic [x]).toArray 1 hB (by unfold maxLen; omega) (by simp [ic])
  simpa [OI, ic] using this
end
theorem infoI : (Try.prog.info? 3).map (fun i => (i.zero, i.size, i.bytes)) = some (some (.int .i64 0), 1, 8) := by kernel_rfl
/-- a number is put behind a row of numbers -/
theorem wpList_appendI {ops : Array Oper} {rest : List Oper} {o : Oper} {a : Act} {w : World} {Q : Exit → Act → World → Prop} (hgd : o.guard = none) (s x : Operand)
    (ho : o.op = .call { callee := .builtin .append, args := #[s, x], argTypes := #[55, 55] })
    (B : Nat) (v : Value) (l : List Int) (hs : a.eval s = v) (hown : OI w B v l) (g c : Nat) (y : Int) (hx : a.eval x = .slice (some ⟨g, 0, none⟩) 1 c) (hc : w.cell? ⟨g, 0, none⟩ = some (.int .i64 y))
    (h63 : l.length ≤ 1000000) (hB : B ≤ w.heap.size)
    (h : ∀ v' w', OI w' B v' (l ++ [y]) → w.grownBy w' v.ownBlock → wpList Try.prog ops Q rest (a.put o.dst v') w') : wpList Try.prog ops Q (o :: rest) a w := by
  obtain ⟨i0, hi, hz0, hz1, hz2⟩ := info_parts infoI
  refine wpList_append_own w hgd s x 55 ho B 3 i0 _ 1 8 Try.underlying55 hi hz0 hz1 hz2 rfl (by decide) v l.length (ic l) hs hown ⟨g, 0, none⟩ 1 c (ic [y]) hx rfl ?_ (ic_one [y]) (by unfold maxLen; omega) (by omega) hB ?_
  · intro j u hj
    cases j with
    | zero =>
      simp [ic] at hj
      subst hj
      exact hc
    | succ j => simp [ic] at hj
  · intro v' w' h1 h2 _
    refine h v' w' ?_ h2
    unfold OI
    rw [List.length_append, ic_append]
    exact h1

/-- a link, and behind it a row of numbers -/
structure Lo (w W : World) (b : Nat) (x : Lk) (v : Value) (l : List Int) : Prop where
  ls : Ls w W b x
  ow : OI W (b + 1) v l
section
variable {w W W' : World} {b : Nat} {x x' : Lk} {v v' : Value} {l l' : List Int}
theorem Lo.upd (h : Lo w W b x v l) (hl : LB W' b x') (k : Kb b W W') : Lo w W' b x' v l :=
  ⟨h.ls.upd hl k, h.ow.keep fun g hg => k.block g (h.ow.lt g hg).2 (by have := (h.ow.lt g hg).1; omega)⟩
theorem Lo.grow {o : Obj} (h : Lo w W b x v l) (ho : OI W' (b + 1) v' l') (hg : (W.alloc o).grownBy W' v.ownBlock) : Lo w W' b x v' l' := by
  have hlt := h.ls.lb.lt
  refine ⟨⟨?_, ?_, h.ls.lo⟩, ho⟩
  · have h1 : LB (W.alloc o) b x := h.ls.lb.below' ((Below.refl _ _).alloc (Nat.le_refl _) o)
    exact (hg.block b h1.lt (fun e => by have := (h.ow.lt b e.symm).1; omega)).trans h1
  · exact (h.ls.bel.alloc h.ls.bel.size o).grown hg (by simp; have := h.ls.bel.size; omega) (fun k hk => by have := (h.ow.lt k hk).1; have := h.ls.lo; omega)
end

namespace LM
/-- numbers that were taken one behind the other, the last one s: each so far behind it at most -/
structure Bk (s : Int) (k : Nat) (l : List Int) : Prop where
  s0 : 0 ≤ s
  s1 : s ≤ 65535
  len : l.length = k + 1
  all : ∀ y ∈ l, 0 ≤ y ∧ y ≤ 65535 ∧ (s - y) % 65536 ≤ 256 * (k : Int)
theorem bk_first {s : Int} (h0 : 0 ≤ s) (h1 : s ≤ 65535) : Bk s 0 [s] := ⟨h0, h1, rfl, fun y hy => by simp at hy; subst hy; omega⟩
theorem Bk.next {s : Int} {k : Nat} {l : List Int} (h : Bk s k l) {m : Nat} (hm : m < 256) : Bk ((s + m + 1) % 65536) (k + 1) (l ++ [(s + m + 1) % 65536]) := by
  refine ⟨by omega, by omega, by rw [List.length_append, h.len]; rfl, fun y hy => ?_⟩
  rcases List.mem_append.1 hy with hy | hy
  · have := h.all y hy
    omega
  · simp at hy
    omega
theorem Bk.new {s : Int} {k : Nat} {l : List Int} (h : Bk s k l) {m : Nat} (hm : m < 256) : err ⟨true, s, 0⟩ ((s + m + 1) % 65536) = 0 ∧ tk ⟨true, s, 0⟩ ((s + m + 1) % 65536) = ⟨true, (s + m + 1) % 65536, 0⟩ := by
  have h0 := h.s0
  have h1 := h.s1
  have he : err ⟨true, s, 0⟩ ((s + m + 1) % 65536) = 0 := by
    refine err_new (by omega) (by omega) (nw_ahead ?_ ?_)
    all_goals
      unfold ah
      simp only
      omega
  exact ⟨he, tk_new he⟩
theorem Bk.old {s : Int} {k : Nat} {l : List Int} (h : Bk s k l) (hk : k ≤ 60) {y : Int} (hy : y ∈ l) : err ⟨true, s, 0⟩ y = 7 ∧ tk ⟨true, s, 0⟩ y = ⟨true, s, 0⟩ := by
  have h0 := h.all y hy
  have he : err ⟨true, s, 0⟩ y = 7 := by
    refine err_old h0.1 h0.2.1 (nw_not rfl ?_)
    unfold ah
    simp only
    omega
  exact ⟨he, tk_same (by rw [he]; decide)⟩
end LM

end Go.Proofs.Ytoigickgknbbfae
