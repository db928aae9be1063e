/- Steps of regions that only read. -/
import Derived.Test.YtkcppidmbojglagPlS
namespace Go.Proofs.Ytkcppidmbojglag
open Go.RowKit

theorem quiet_val {P : Program} {C : World → Prop} {K : Act → Prop} {o : Oper} {a : Act} (v : Value) (hrun : ∀ w, C w → (execOp a.eval o).run P w = .ok (.value v) w) (h : K (a.put o.dst v)) : o.quiet P a C K :=
  ⟨v, fun w hw => by unfold Oper.quietAt; rw [hrun w hw]; exact ⟨rfl, rfl⟩, h⟩
theorem quiet_load3 {C : World → Prop} {K : Act → Prop} {o : Oper} {a : Act} (x : Operand) (b k : Nat) {v : Value} (ho : o.op = .load 3 x) (hx : a.eval x = .pointer (some ⟨b, k, none⟩)) (hr : ∀ w, C w → w.cell? ⟨b, k, none⟩ = some v)
    (h : K (a.put o.dst v)) : o.quiet Try.prog a C K :=
  quiet_val _ (fun w hw => by unfold execOp; simp only [ho, hx, Sem.run_bind, Sem.run_pure, Result.andThen_ok, load3 w b k v (hr w hw)]) h
theorem quiet_load27 {C : World → Prop} {K : Act → Prop} {o : Oper} {a : Act} (x : Operand) (b : Nat) (s : St) (vc vw : Value) (ho : o.op = .load 27 x) (hx : a.eval x = .pointer (some ⟨b, 0, none⟩)) (hr : ∀ w, C w → NB w b s vc vw)
    (h : K (a.put o.dst (.agg (nv s vc vw).toArray))) : o.quiet Try.prog a C K :=
  quiet_val _ (fun w hw => by unfold execOp; simp only [ho, hx, Sem.run_bind, Sem.run_pure, Result.andThen_ok, load27 w b s vc vw (hr w hw).range]) h

end Go.Proofs.Ytkcppidmbojglag
