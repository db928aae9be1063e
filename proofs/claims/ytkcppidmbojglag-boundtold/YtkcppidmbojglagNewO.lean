/- Rows of numbers, and of pairs, in a region that draws its order. -/
import Derived.Test.YtkcppidmbojglagBas
import Derived.Test.YtkcppidmbojglagNewT
namespace Go.Proofs.Ytkcppidmbojglag
open Go.RowKit

section
variable {ops : Array Oper} {o : Oper} {a : Act} {w : World}
theorem want_none (h : o.guard = none) (tmps : Array Value) : Region.wanted o (yielded ops tmps) = true := by unfold Region.wanted; rw [h]
/-- a row that is typed -/
theorem RowDo.lit {R : Value → World → Prop} (hg : o.guard = none) (n : Nat) (ob : Obj) (hrun : (execOp a.eval o).run Try.prog w = .ok (.value (.slice (some ⟨w.heap.size, 0, none⟩) n n)) (w.alloc ob)) (hR : R (.slice (some ⟨w.heap.size, 0, none⟩) n n) (w.alloc ob)) : RowDo Try.prog ops o a w R none := by
  refine ⟨want_none hg _, _, _, hrun, hR, ?_, fun g e => .inr ?_⟩
  · exact ⟨rfl, rfl, rfl, by simp, fun k hk _ => Below.heap_alloc w ob k hk⟩
  · have : w.heap.size = g := by simpa [Value.ownBlock] using e
    omega
/-- numbers are put behind a row of numbers -/
theorem RowDo.appI (hg : o.guard = none) (s x : Operand) (ho : o.op = .call { callee := .builtin .append, args := #[s, x], argTypes := #[36, 36] }) (B : Nat) (v u : Value) (l m : List Int) (D : Nat → Prop) (hs : a.eval s = v) (hown : OI w B v l) (hx : a.eval x = u) (hr : RI D w u m)
    (h63 : l.length + m.length ≤ 1000000) (hB : B ≤ w.heap.size) : RowDo Try.prog ops o a w (fun v' w' => OI w' B v' (l ++ m)) v.ownBlock := by
  obtain ⟨ao, cap, rfl, hc, hn⟩ := hr.form
  obtain ⟨i0, hi, hz0, hz1, hz2⟩ := info_parts infoI
  refine ⟨want_none hg _, ?_⟩
  cases ao with
  | none =>
    obtain rfl : cap = 0 := hn rfl
    obtain rfl : m = [] := List.length_eq_zero_iff.1 (by omega)
    have hrun := run_append_owned_none (P := Try.prog) (w := w) B 36 o.type 3 i0 1 Try.underlying36 hi v l.length (ic l) hown
    refine ⟨v, w, ?_, by rw [List.append_nil]; exact hown, World.grownBy.refl w _, fun g e => .inl e⟩
    simp [execOp, ho, resolve, invoke, builtin, hs, hx, hrun, Result.andThen]
  | some ad =>
    obtain ⟨v', w', hrun, h2, h3, _, h5⟩ := run_append_own_at (P := Try.prog) w B 36 o.type 3 i0 _ 1 8 Try.underlying36 hi hz0 hz1 hz2 rfl (by decide) v l.length (ic l) hown ad m.length cap (ic m) (by rw [ic_length, Nat.mul_one]) (fun j u hj => by
      obtain ⟨y, hy, rfl⟩ := ic_get hj
      obtain ⟨g, o', e, hc'⟩ := hr.at hy
      cases e
      rw [Addr.add_mid]; exact hc') (ic_one m) (by unfold maxLen; omega) (by omega) hB
    refine ⟨v', w', ?_, ?_, h3, fun g e => ?_⟩
    · simp only [execOp, ho, resolve, invoke, builtin, Sem.run_bind, Sem.run_pure, Result.andThen_ok, List.map_toArray, List.map_cons, List.map_nil, hs, hx, hrun]
    · unfold OI
      rw [List.length_append, ic_append]
      exact h2
    · rcases h5 with h5 | h5
      · exact .inl (by rw [← h5]; exact e)
      · have : some g = some w.heap.size := by rw [← h5, ← e]
        right; cases this; exact Nat.le_refl _
/-- pairs are put behind a row of pairs -/
theorem RowDo.app2 (e t : TypeId) (ht : Try.prog.underlying t = some (.slice e))
    (hinfo : (Try.prog.info? e).map (fun i => (i.zero, i.size, i.bytes)) = some (some (.agg #[.int .i64 0, .int .i64 0]), 2, 16)) (hg : o.guard = none) (s x : Operand) (ho : o.op = .call { callee := .builtin .append, args := #[s, x], argTypes := #[t, t] }) (B : Nat) (v u : Value) (l m : List (Int × Int)) (D : Nat → Prop) (hs : a.eval s = v) (hown : O2 e w B v l) (hx : a.eval x = u) (hr : R2 D w u m)
    (h63 : l.length + m.length ≤ 1000000) (hB : B ≤ w.heap.size) : RowDo Try.prog ops o a w (fun v' w' => O2 e w' B v' (l ++ m)) v.ownBlock := by
  obtain ⟨ao, cap, rfl, hc, hn⟩ := hr.form
  obtain ⟨i0, hi, hz⟩ := Option.map_eq_some_iff.1 hinfo
  simp only [Prod.mk.injEq] at hz
  obtain ⟨hz0, hz1, hz2⟩ := hz
  refine ⟨want_none hg _, ?_⟩
  cases ao with
  | none =>
    obtain rfl : cap = 0 := hn rfl
    obtain rfl : m = [] := List.length_eq_zero_iff.1 (by omega)
    have hrun := run_append_owned_none (P := Try.prog) (w := w) B t o.type e i0 2 ht hi v l.length (pc l) hown
    refine ⟨v, w, ?_, by rw [List.append_nil]; exact hown, World.grownBy.refl w _, fun g e => .inl e⟩
    simp [execOp, ho, resolve, invoke, builtin, hs, hx, hrun, Result.andThen]
  | some ad =>
    obtain ⟨v', w', hrun, h2, h3, _, h5⟩ := run_append_own_at (P := Try.prog) w B t o.type e i0 _ 2 16 ht hi hz0 hz1 hz2 rfl (by decide) v l.length (pc l) hown ad m.length cap (pc m) (pc_length m) hr.cells (pc_one m) (by unfold maxLen; omega) (by omega) hB
    refine ⟨v', w', ?_, ?_, h3, fun g eg => ?_⟩
    · simp only [execOp, ho, resolve, invoke, builtin, Sem.run_bind, Sem.run_pure, Result.andThen_ok, List.map_toArray, List.map_cons, List.map_nil, hs, hx, hrun]
    · unfold O2
      rw [List.length_append, pc_append]
      exact h2
    · rcases h5 with h5 | h5
      · exact .inl (by rw [← h5]; exact eg)
      · have : some g = some w.heap.size := by rw [← h5, ← eg]
        right; cases this; exact Nat.le_refl _
end
/-- rows of numbers, by a table -/
theorem rowsI_ok (W0 : World) (tb : Nat → List Int) : RowsOk W0 (fun j v w => OI w W0.heap.size v (tb j)) := ⟨fun _ _ _ _ h _ hk => OI.keep h hk, fun _ _ _ h g hg => OI.lt h g hg⟩
theorem rows2_ok (W0 : World) (t : TypeId) (tb : Nat → List (Int × Int)) : RowsOk W0 (fun j v w => O2 t w W0.heap.size v (tb j)) := ⟨fun _ _ _ _ h _ hk => O2.keep h hk, fun _ _ _ h g hg => O2.lt h g hg⟩

end Go.Proofs.Ytkcppidmbojglag
