/- Parts of lists; a pair that is typed; a bit. -/
import Derived.Test.YtigjbgecdaljkagPk9
import Derived.Test.YtigjbgecdaljkagPk13
namespace Go.Proofs.Ytigjbgecdaljkag
open Go.RowKit

/-- the first numbers of a list -/
theorem RI.cut {D : Nat → Prop} {W : World} {a : Option Addr} {n cap j : Nat} {l : List Int} (h : RI D W (.slice a n cap) l) (hj : j ≤ l.length) : RI D W (.slice a j cap) (l.take j) := by
  obtain ⟨a', c, e, h1, h2, h3⟩ := h
  cases e
  have hlen : (l.take j).length = j := by rw [List.length_take]; omega
  refine ⟨_, _, by rw [hlen], by omega, h2, ?_⟩
  rcases h3 with h3 | ⟨g', o', e, hd, hlt, h4⟩
  · left; rw [h3]; simp
  · cases e
    exact .inr ⟨g', o', rfl, hd, hlt, fun i x hx => h4 i x (by
      rw [List.getElem?_take] at hx
      split at hx
      · exact hx
      · cases hx)⟩
theorem slice_cut (aa : Option Addr) (La ac n : Nat) (w : World) (hn : n ≤ ac) : (Instr.sliceAt 36 (.slice aa La ac) none (some (.int .i64 (n : Int))) none).run Try.prog w = .ok (.slice aa n ac) w := by
  have h1 : (n : Int) ≤ (ac : Int) := by omega
  cases aa <;> simp [go_sem, h1]
theorem calm_cut {W0 : World} {K : Act → Prop} {o : Oper} {a : Act} (x y : Operand) {aa : Option Addr} {n cap j : Nat} (ho : o.op = .slice 36 x none (some y) none) (hx : a.eval x = .slice aa n cap) (hy : a.eval y = .int .i64 (j : Int)) (hj : j ≤ cap)
    (h : K (a.put o.dst (.slice aa j cap))) : Oper.calm Try.prog W0 o a K :=
  calm_val _ (fun w hw => by unfold execOp; simp only [ho, hx, hy, Option.map_none, Option.map_some, Sem.run_bind, Sem.run_pure, Result.andThen_ok, slice_cut aa n cap j w hj]) h
/-- where the rest of a row begins -/
def restA (a : Option Addr) (cap j : Nat) : Option Addr := if cap = j then a else a.map fun x => x.add j
/-- the last numbers of a list -/
theorem RI.rest {D : Nat → Prop} {W : World} {a : Option Addr} {n cap j : Nat} {l : List Int} (h : RI D W (.slice a n cap) l) (hj : j ≤ l.length) : RI D W (.slice (restA a cap j) (n - j) (cap - j)) (l.drop j) := by
  obtain ⟨a', c, e, h1, h2, h3⟩ := h
  cases e
  have hlen : (l.drop j).length = l.length - j := List.length_drop
  refine ⟨_, _, by rw [hlen], by omega, fun e => by
    unfold restA at e
    split at e
    · omega
    · cases a with
      | none => have := h2 rfl; omega
      | some x => simp at e, ?_⟩
  by_cases hcj : cap = j
  · left
    rw [List.drop_eq_nil_iff]; omega
  · rcases h3 with h3 | ⟨g', o', e, hd, hlt, h4⟩
    · left; rw [h3]; simp
    · cases e
      refine .inr ⟨g', o' + j, by unfold restA; rw [if_neg hcj, Option.map_some, Addr.add_mid], hd, hlt, fun i x hx => ?_⟩
      rw [List.getElem?_drop] at hx
      rw [Nat.add_assoc]
      exact h4 (j + i) x hx
theorem slice_rest (aa : Option Addr) (La ac n : Nat) (w : World) (hn : n ≤ La) : (Instr.sliceAt 36 (.slice aa La ac) (some (.int .i64 (n : Int))) none none).run Try.prog w = .ok (.slice (restA aa ac n) (La - n) (ac - n)) w := by
  have h1 : (n : Int) ≤ (La : Int) := by omega
  unfold restA
  cases aa with
  | none => simp [go_sem, h1]
  | some x =>
    by_cases e : ac = n
    · simp [go_sem, h1, e]
    · simp [go_sem, h1, e]
theorem calm_rest {W0 : World} {K : Act → Prop} {o : Oper} {a : Act} (x y : Operand) {aa : Option Addr} {n cap j : Nat} (ho : o.op = .slice 36 x (some y) none none) (hx : a.eval x = .slice aa n cap) (hy : a.eval y = .int .i64 (j : Int)) (hj : j ≤ n)
    (h : K (a.put o.dst (.slice (restA aa cap j) (n - j) (cap - j)))) : Oper.calm Try.prog W0 o a K :=
  calm_val _ (fun w hw => by unfold execOp; simp only [ho, hx, hy, Option.map_none, Option.map_some, Sem.run_bind, Sem.run_pure, Result.andThen_ok, slice_rest aa n cap j w hj]) h
theorem shl_any (c : Nat) (hc : c ≤ 7) (W : World) : (binOp .shl 3 (.int .i64 1) (.int .i64 (c : Int))).run Try.prog W = .ok (.int .i64 ((2 ^ c : Nat) : Int)) W := by
  match c, hc with
  | 0, _ => rfl
  | 1, _ => rfl
  | 2, _ => rfl
  | 3, _ => rfl
  | 4, _ => rfl
  | 5, _ => rfl
  | 6, _ => rfl
  | 7, _ => rfl
  | n + 8, h => omega
theorem calm_shl {W0 : World} {K : Act → Prop} {o : Oper} {a : Act} (x y : Operand) {t : TypeId} {c : Nat} (ho : o.op = .binOp .shl 3 x y t) (hx : a.eval x = .int .i64 1) (hy : a.eval y = .int .i64 (c : Int)) (hc : c ≤ 7)
    (h : K (a.put o.dst (.int .i64 ((2 ^ c : Nat) : Int)))) : Oper.calm Try.prog W0 o a K :=
  calm_val _ (fun w hw => by unfold execOp; simp only [ho, hx, hy, eqGuard, ite_self, Sem.run_bind, Sem.run_pure, Result.andThen_ok, shl_any c hc w]) h
theorem loadLW (w : World) (b o : Nat) (v : Value) (h : w.cell? ⟨b, o, none⟩ = some v) : (Instr.loadAt 25 (.pointer (some ⟨b, o, none⟩))).run Try.prog w = .ok v w := by simp [go_sem, h]
theorem calm_loadLW {W0 : World} {K : Act → Prop} {o : Oper} {a : Act} (x : Operand) (b k : Nat) {v : Value} (ho : o.op = .load 25 x) (hx : a.eval x = .pointer (some ⟨b, k, none⟩)) (hr : ∀ w, Below W0.heap.size W0 w → w.cell? ⟨b, k, none⟩ = some v)
    (h : K (a.put o.dst v)) : Oper.calm Try.prog W0 o a K :=
  calm_val _ (fun w hw => by unfold execOp; simp only [ho, hx, Sem.run_bind, Sem.run_pure, Result.andThen_ok, loadLW w b k v (hr w hw)]) h
theorem o2_one {t : TypeId} {B : Nat} (W : World) (x y : Int) (hB : B ≤ W.heap.size) : O2 t (W.alloc (.cells #[.int .i64 x, .int .i64 y] t)) B (.slice (some ⟨W.heap.size, 0, none⟩) 1 1) [(x, y)] := by
  have := World.ownsRow_lit (e := t) (size := 2) (base := B) W #[.int .i64 x, .int .i64 y] 1 hB (by unfold maxLen; omega) (by simp)
  unfold O2
  simpa [pc] using this
theorem bt_own {c : Nat} : PM.bt (2 ^ c) c = true := by
  unfold PM.bt
  rw [Nat.div_self (Nat.pow_pos (by decide))]
  rfl

end Go.Proofs.Ytigjbgecdaljkag
