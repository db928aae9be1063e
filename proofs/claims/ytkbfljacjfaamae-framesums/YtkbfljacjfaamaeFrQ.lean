/- Bytes put behind bytes under a guard. -/
import Derived.Test.YtkbfljacjfaamaeFrJ
namespace Go.Proofs.Ytkbfljacjfaamae
open Go.RowKit

theorem wp_appendR {o : Oper} {a : Act} {w : World} {K : Act → World → Prop} {Q : Exit → Act → World → Prop} (s x : Operand)
    (ho : o.op = .call { callee := .builtin .append, args := #[s, x], argTypes := #[23, 23] })
    (B : Nat) (v u : Value) (l m : List Nat) (hs : a.eval s = v) (hown : OW w B v l) (hx : a.eval x = u) (hr : RD w u m)
    (h63 : l.length + m.length ≤ 1000000) (hB : B ≤ w.heap.size)
    (h : ∀ v' w', OW w' B v' (l ++ m) → w.grownBy w' v.ownBlock → K (a.put o.dst v') w') : o.wp Try.prog a w K Q := by
  obtain ⟨i0, hi, hz0, hz1, hz2⟩ := info_parts infoB
  obtain ⟨ao, cap, rfl, hc, hm, _⟩ := hr.form
  cases ao with
  | none =>
    obtain ⟨h0, rfl, rfl⟩ := hr.nilv
    have hrun := run_append_owned_none (P := Try.prog) (w := w) B 23 o.type 5 i0 1 Try.underlying23 hi v l.length (bc l) hown
    have hx' : a.eval x = .slice none 0 0 := by rw [hx]; rfl
    unfold Oper.wp
    simp [execOp, ho, resolve, invoke, builtin, hs, hx', hrun, Result.andThen]
    refine h v w ?_ (World.grownBy.refl w _)
    rw [List.append_nil]; exact hown
  | some ad =>
    refine wp_append_own w s x 23 ho B 5 i0 _ 1 1 Try.underlying23 hi hz0 hz1 hz2 rfl (by decide) v l.length (bc l) hs hown ad m.length cap (bc m) hx (by rw [bc_length]; omega) (fun j y hy => ?_) (bc_one m) (by unfold maxLen; omega) (by omega) hB ?_
    · obtain ⟨a', c', e, _, _, hh⟩ := hr.2
      cases e
      rcases hh with hh | ⟨g, o', e, _, hh⟩
      · rw [hh] at hy; simp [bc] at hy
      · cases e
        obtain ⟨z, hz, rfl⟩ := bc_get hy
        rw [Addr.add_mid]; exact hh j z hz
    · intro v' w' h1 h2 _
      refine h v' w' ?_ h2
      unfold OW
      rw [List.length_append, bc_append]
      exact h1
theorem wpList_appendRg {ops : Array Oper} {rest : List Oper} {o : Oper} {a : Act} {w : World} {Q : Exit → Act → World → Prop} (hgd : Region.wanted o (yielded ops a.tmps) = true) (s x : Operand)
    (ho : o.op = .call { callee := .builtin .append, args := #[s, x], argTypes := #[23, 23] })
    (B : Nat) (v u : Value) (l m : List Nat) (hs : a.eval s = v) (hown : OW w B v l) (hx : a.eval x = u) (hr : RD w u m)
    (h63 : l.length + m.length ≤ 1000000) (hB : B ≤ w.heap.size)
    (h : ∀ v' w', OW w' B v' (l ++ m) → w.grownBy w' v.ownBlock → wpList Try.prog ops Q rest (a.put o.dst v') w') : wpList Try.prog ops Q (o :: rest) a w :=
  wpList_step fun K hK => by
    rw [if_pos hgd]
    exact wp_appendR s x ho B v u l m hs hown hx hr h63 hB fun v' w' h1 h2 => hK _ _ (h v' w' h1 h2)

end Go.Proofs.Ytkbfljacjfaamae
