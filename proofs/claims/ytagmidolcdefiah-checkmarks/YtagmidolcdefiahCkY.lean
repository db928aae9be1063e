/- Bytes put behind a row of bytes, in plain regions and in such as draw their order. -/
import Derived.Test.YtagmidolcdefiahPk10
import Derived.Test.YtagmidolcdefiahPk6
import Derived.Test.YtagmidolcdefiahSrO
namespace Go.Proofs.Ytagmidolcdefiah
open Go.RowKit Go.Shelf
section
variable {ops : Array Oper} {o : Oper} {a : Act} {w : World}
/-- bytes are put behind a row of bytes -/
theorem run_appY (s x : Operand) (ho : o.op = .call { callee := .builtin .append, args := #[s, x], argTypes := #[33, 33] }) (B : Nat) (v u : Value) (l m : List Nat) (D : Nat → Prop) (hs : a.eval s = v) (hown : OY w B v l) (hx : a.eval x = u) (hr : RY D w u m)
    (h63 : l.length + m.length ≤ 1000000) (hB : B ≤ w.heap.size) : ∃ v' w', (execOp a.eval o).run Try.prog w = .ok (.value v') w' ∧ OY w' B v' (l ++ m) ∧ w.grownBy w' v.ownBlock ∧ ∀ g, v'.ownBlock = some g → v.ownBlock = some g ∨ w.heap.size ≤ g := by
  obtain ⟨ao, cap, rfl, hc, _, hn⟩ := hr.form
  obtain ⟨i0, hi, hz0, hz1, hz2⟩ := info_parts infoY
  cases ao with
  | none =>
    obtain rfl : cap = 0 := hn rfl
    obtain rfl : m = [] := List.length_eq_zero_iff.1 (by omega)
    have hrun := run_append_owned_none (P := Try.prog) (w := w) B 33 o.type 5 i0 1 Try.underlying33 hi v l.length (yc l) hown
    refine ⟨v, w, ?_, by rw [List.append_nil]; exact hown, World.grownBy.refl w _, fun g e => .inl e⟩
    simp [execOp, ho, resolve, invoke, builtin, hs, hx, hrun, Result.andThen]
  | some ad =>
    obtain ⟨v', w', hrun, h2, h3, _, h5⟩ := run_append_own_at (P := Try.prog) w B 33 o.type 5 i0 _ 1 1 Try.underlying33 hi hz0 hz1 hz2 rfl (by decide) v l.length (yc l) hown ad m.length cap (yc m) (by rw [yc_length, Nat.mul_one]) (fun j u hj => by
      obtain ⟨y, hy, rfl⟩ := yc_get hj
      obtain ⟨g, o', e, hc'⟩ := hr.at hy
      cases e
      rw [Addr.add_mid]; exact hc') (yc_one m) (by unfold maxLen; omega) (by omega) hB
    refine ⟨v', w', ?_, ?_, h3, fun g e => ?_⟩
    · simp only [execOp, ho, resolve, invoke, builtin, Sem.run_bind, Sem.run_pure, Result.andThen_ok, List.map_toArray, List.map_cons, List.map_nil, hs, hx, hrun]
    · unfold OY
      rw [List.length_append, yc_append]
      exact h2
    · rcases h5 with h5 | h5
      · exact .inl (by rw [← h5]; exact e)
      · have : some g = some w.heap.size := by rw [← h5, ← e]
        right; cases this; exact Nat.le_refl _
theorem RowDo.appY (hg : o.guard = none) (s x : Operand) (ho : o.op = .call { callee := .builtin .append, args := #[s, x], argTypes := #[33, 33] }) (B : Nat) (v u : Value) (l m : List Nat) (D : Nat → Prop) (hs : a.eval s = v) (hown : OY w B v l) (hx : a.eval x = u) (hr : RY D w u m)
    (h63 : l.length + m.length ≤ 1000000) (hB : B ≤ w.heap.size) : RowDo Try.prog ops o a w (fun v' w' => OY w' B v' (l ++ m)) v.ownBlock :=
  ⟨want_none hg _, run_appY s x ho B v u l m D hs hown hx hr h63 hB⟩
end
theorem rowsY_ok (W0 : World) (tb : Nat → List Nat) : RowsOk W0 (fun j v w => OY w W0.heap.size v (tb j)) := ⟨fun _ _ _ _ h _ hk => OY.keep h hk, fun _ _ _ h g hg => OY.lt h g hg⟩
/-- the same in a plain region -/
theorem wpList_appYr {ops : Array Oper} {rest : List Oper} {o : Oper} {a : Act} {w : World} {Q : Exit → Act → World → Prop} (hgd : o.guard = none) (s x : Operand)
    (ho : o.op = .call { callee := .builtin .append, args := #[s, x], argTypes := #[33, 33] })
    (B : Nat) (v u : Value) (l m : List Nat) (D : Nat → Prop) (hs : a.eval s = v) (hown : OY w B v l) (hx : a.eval x = u) (hr : RY D w u m)
    (h63 : l.length + m.length ≤ 1000000) (hB : B ≤ w.heap.size)
    (h : ∀ v' w', OY w' B v' (l ++ m) → w.grownBy w' v.ownBlock → wpList Try.prog ops Q rest (a.put o.dst v') w') : wpList Try.prog ops Q (o :: rest) a w := by
  obtain ⟨v', w', hrun, h1, h2, _⟩ := run_appY (o := o) (a := a) s x ho B v u l m D hs hown hx hr h63 hB
  refine wpList_step fun _ hK => ?_
  rw [if_pos (want_none hgd _)]
  unfold Oper.wp
  rw [hrun]
  exact hK _ _ (h v' w' h1 h2)
section
variable {W0 : World} {K : Act → Prop} {o : Oper} {a : Act}
theorem calm_cellY (x : Operand) (b k : Nat) {v : Value} (ho : o.op = .load 33 x) (hx : a.eval x = .pointer (some ⟨b, k, none⟩)) (hr : ∀ w, Below W0.heap.size W0 w → w.cell? ⟨b, k, none⟩ = some v) (h : K (a.put o.dst v)) : Oper.calm Try.prog W0 o a K :=
  calm_val _ (fun w hw => by
    have hl : (Instr.loadAt 33 (.pointer (some ⟨b, k, none⟩))).run Try.prog w = .ok v w := by simp [go_sem, hr w hw]
    unfold execOp; simp only [ho, hx, Sem.run_bind, Sem.run_pure, Result.andThen_ok, hl]) h
theorem calm_cutY (x y : Operand) {aa : Option Addr} {n cap : Nat} {z : Int} (j : Nat) (hz : z = (j : Int)) (ho : o.op = .slice 33 x none (some y) none) (hx : a.eval x = .slice aa n cap) (hy : a.eval y = .int .i64 z) (hj : j ≤ cap)
    (h : K (a.put o.dst (.slice aa j cap))) : Oper.calm Try.prog W0 o a K := by
  subst hz
  exact calm_val _ (fun w hw => by unfold execOp; simp only [ho, hx, hy, Option.map_none, Option.map_some, Sem.run_bind, Sem.run_pure, Result.andThen_ok, sliceY_cut aa n cap j w hj]) h
end
end Go.Proofs.Ytagmidolcdefiah
