/- The rule's car of a want, as the document has it. -/
import Derived.Test.YtdfdkddjkhcgdaiPk5
import Derived.Test.YtdfdkddjkhcgdaiPk4
import Derived.Test.YtdfdkddjkhcgdaiPk3
namespace Go.Proofs.Ytdfdkddjkhcgdai
open Go.RowKit Go.Shelf

section
variable {C : World → Prop} {K : Act → Prop} {o : Oper} {a : Act}
theorem quiet_lR (x : Operand) (b k : Nat) {v : Value} (ho : o.op = .load 33 x) (hx : a.eval x = .pointer (some ⟨b, k, none⟩)) (hr : ∀ w, C w → w.cell? ⟨b, k, none⟩ = some v) (h : K (a.put o.dst v)) : o.quiet Try.prog a C K :=
  quiet_val _ (fun w hw => by
    have hl : (Instr.loadAt 33 (.pointer (some ⟨b, k, none⟩))).run Try.prog w = .ok v w := by simp [go_sem, hr w hw]
    unfold execOp; simp only [ho, hx, Sem.run_bind, Sem.run_pure, Result.andThen_ok, hl]) h
theorem quiet_lW (x : Operand) (b k : Nat) {v : Value} (ho : o.op = .load 34 x) (hx : a.eval x = .pointer (some ⟨b, k, none⟩)) (hr : ∀ w, C w → w.cell? ⟨b, k, none⟩ = some v) (h : K (a.put o.dst v)) : o.quiet Try.prog a C K :=
  quiet_val _ (fun w hw => by
    have hl : (Instr.loadAt 34 (.pointer (some ⟨b, k, none⟩))).run Try.prog w = .ok v w := by simp [go_sem, hr w hw]
    unfold execOp; simp only [ho, hx, Sem.run_bind, Sem.run_pure, Result.andThen_ok, hl]) h
theorem quiet_iR (x y : Operand) {g f n cap j : Nat} (ho : o.op = .indexAddr 33 x y) (hx : a.eval x = .slice (some ⟨g, f, none⟩) n cap) (hy : a.eval y = .int .i64 (j : Int)) (hj : j < n) (h : K (a.put o.dst (.pointer (some ⟨g, f + j * 2, none⟩)))) : o.quiet Try.prog a C K :=
  quiet_val _ (fun w hw => by unfold execOp; simp only [ho, hx, hy, Sem.run_bind, Sem.run_pure, Result.andThen_ok, ixR w rfl hj]) h
theorem quiet_iW (x y : Operand) {g f n cap j : Nat} (ho : o.op = .indexAddr 34 x y) (hx : a.eval x = .slice (some ⟨g, f, none⟩) n cap) (hy : a.eval y = .int .i64 (j : Int)) (hj : j < n) (h : K (a.put o.dst (.pointer (some ⟨g, f + j * 2, none⟩)))) : o.quiet Try.prog a C K :=
  quiet_val _ (fun w hw => by unfold execOp; simp only [ho, hx, hy, Sem.run_bind, Sem.run_pure, Result.andThen_ok, ixW w rfl hj]) h
theorem quiet_l23n (x : Operand) (b : Nat) (s : St) (vc vw : Value) (ho : o.op = .load 32 x) (hx : a.eval x = .pointer (some ⟨b, 0, none⟩)) (hr : ∀ w, C w → NB w b s vc vw) (h : K (a.put o.dst (.agg (sv s).toArray))) : o.quiet Try.prog a C K :=
  quiet_val _ (fun w hw => by
    unfold execOp; simp only [ho, hx, Sem.run_bind, Sem.run_pure, Result.andThen_ok, load23 w b s (hr w hw).site]) h
end
theorem far_any (a b : Int) (w : World) (ha : -1000000 ≤ a ∧ a ≤ 1000000) (hb : -1000000 ≤ b ∧ b ≤ 1000000) : Calls Try.prog 13 #[.int .i64 a, .int .i64 b] w fun e w' => e = .returned (.int .i64 (SM.dist a b)) ∧ Below w.heap.size w w' := by
  have h1 : IntKind.i64.wrap (b - a) = b - a := IntWalk.i64_in _ (by omega)
  have h2 : IntKind.i64.wrap (a - b) = a - b := IntWalk.i64_in _ (by omega)
  by_cases h : a < b
  · have hd : SM.dist a b = b - a := by unfold SM.dist; rw [if_pos h]
    rw [hd]
    go_enter Try.func13, Try.ntmps13
    go_wp2
    go_ret
    exact ⟨rfl, Below.refl _ _⟩
  · have hd : SM.dist a b = a - b := by unfold SM.dist; rw [if_neg h]
    rw [hd]
    go_enter Try.func13, Try.ntmps13
    go_wp2
    go_ret
    exact ⟨rfl, Below.refl _ _⟩

end Go.Proofs.Ytdfdkddjkhcgdai
