/- A region that draws its order, reads and calls, and then stores. -/
import Derived.Test.YtkcppidmbojglagBas
import Derived.Test.YtkcppidmbojglagPlC
namespace Go.Proofs.Ytkcppidmbojglag
open Go.RowKit

/-- its head (the first n operations) reads and calls (callees may make memory); what is behind it waits for all of it -/
theorem wp_region_tail {P : Program} {id : Nat} {Q : Exit → Act → World → Prop} {a : Act} {w : World} {l : List Oper} (n : Nat) (hm : P.follows .mixedOrders = true) (hB : shapeB .any l.toArray n n = true)
    (h : wpCalm P l.toArray w.drew (fun a' => ∀ w', Below w.drew.heap.size w.drew w' → wpList P l.toArray Q (l.drop n) a' w') (l.take n) a) :
    (Code.region id l.toArray true).wp P Q a w := by
  refine wp_region_new n n (fun _ => .cells #[] 0) hm hB (fun j h1 h2 => by omega) ?_
  refine wpCalm_mono (fun a' ha σ w' hs => ?_) _ a h
  match σ, hs with
  | [], hs => exact ha w' hs.bel
  | p :: r, hs =>
    exfalso
    have h1 := hs.some p (by simp)
    omega
theorem calm_val {P : Program} {W0 : World} {K : Act → Prop} {o : Oper} {a : Act} (v : Value) (hrun : ∀ w, Below W0.heap.size W0 w → (execOp a.eval o).run P w = .ok (.value v) w) (h : K (a.put o.dst v)) : Oper.calm P W0 o a K :=
  ⟨v, fun w hw => by unfold Oper.quietAt; rw [hrun w hw]; exact ⟨rfl, rfl⟩, h⟩
section
variable {W0 : World} {K : Act → Prop} {o : Oper} {a : Act}
theorem calm_load27 (x : Operand) (b : Nat) (s : St) (vc vw : Value) (ho : o.op = .load 27 x) (hx : a.eval x = .pointer (some ⟨b, 0, none⟩)) (hr : ∀ w, Below W0.heap.size W0 w → NB w b s vc vw)
    (h : K (a.put o.dst (.agg (nv s vc vw).toArray))) : Oper.calm Try.prog W0 o a K :=
  calm_val _ (fun w hw => by unfold execOp; simp only [ho, hx, Sem.run_bind, Sem.run_pure, Result.andThen_ok, load27 w b s vc vw (hr w hw).range]) h
theorem calm_load3 (x : Operand) (b k : Nat) {v : Value} (ho : o.op = .load 3 x) (hx : a.eval x = .pointer (some ⟨b, k, none⟩)) (hr : ∀ w, Below W0.heap.size W0 w → w.cell? ⟨b, k, none⟩ = some v)
    (h : K (a.put o.dst v)) : Oper.calm Try.prog W0 o a K :=
  calm_val _ (fun w hw => by unfold execOp; simp only [ho, hx, Sem.run_bind, Sem.run_pure, Result.andThen_ok, load3 w b k v (hr w hw)]) h
theorem loadLI (w : World) (b o : Nat) (v : Value) (h : w.cell? ⟨b, o, none⟩ = some v) : (Instr.loadAt 36 (.pointer (some ⟨b, o, none⟩))).run Try.prog w = .ok v w := by simp [go_sem, h]
theorem calm_loadLI (x : Operand) (b k : Nat) {v : Value} (ho : o.op = .load 36 x) (hx : a.eval x = .pointer (some ⟨b, k, none⟩)) (hr : ∀ w, Below W0.heap.size W0 w → w.cell? ⟨b, k, none⟩ = some v)
    (h : K (a.put o.dst v)) : Oper.calm Try.prog W0 o a K :=
  calm_val _ (fun w hw => by unfold execOp; simp only [ho, hx, Sem.run_bind, Sem.run_pure, Result.andThen_ok, loadLI w b k v (hr w hw)]) h
theorem calm_ixI (x y : Operand) {g f n cap j : Nat} (ho : o.op = .indexAddr 36 x y) (hx : a.eval x = .slice (some ⟨g, f, none⟩) n cap) (hy : a.eval y = .int .i64 (j : Int)) (hj : j < n)
    (h : K (a.put o.dst (.pointer (some ⟨g, f + j, none⟩)))) : Oper.calm Try.prog W0 o a K :=
  calm_val _ (fun w hw => by unfold execOp; simp only [ho, hx, hy, Sem.run_bind, Sem.run_pure, Result.andThen_ok, ixI w rfl hj]) h
theorem calm_ixP (x y : Operand) {g f n cap j : Nat} (ho : o.op = .indexAddr 29 x y) (hx : a.eval x = .slice (some ⟨g, f, none⟩) n cap) (hy : a.eval y = .int .i64 (j : Int)) (hj : j < n)
    (h : K (a.put o.dst (.pointer (some ⟨g, f + j, none⟩)))) : Oper.calm Try.prog W0 o a K :=
  calm_val _ (fun w hw => by unfold execOp; simp only [ho, hx, hy, Sem.run_bind, Sem.run_pure, Result.andThen_ok, ixP w rfl hj]) h
end
section
variable {C : World → Prop} {K : Act → Prop} {o : Oper} {a : Act}
theorem quiet_loadLI (x : Operand) (b k : Nat) {v : Value} (ho : o.op = .load 36 x) (hx : a.eval x = .pointer (some ⟨b, k, none⟩)) (hr : ∀ w, C w → w.cell? ⟨b, k, none⟩ = some v)
    (h : K (a.put o.dst v)) : o.quiet Try.prog a C K :=
  quiet_val _ (fun w hw => by unfold execOp; simp only [ho, hx, Sem.run_bind, Sem.run_pure, Result.andThen_ok, loadLI w b k v (hr w hw)]) h
theorem quiet_ixI (x y : Operand) {g f n cap j : Nat} (ho : o.op = .indexAddr 36 x y) (hx : a.eval x = .slice (some ⟨g, f, none⟩) n cap) (hy : a.eval y = .int .i64 (j : Int)) (hj : j < n)
    (h : K (a.put o.dst (.pointer (some ⟨g, f + j, none⟩)))) : o.quiet Try.prog a C K :=
  quiet_val _ (fun w hw => by unfold execOp; simp only [ho, hx, hy, Sem.run_bind, Sem.run_pure, Result.andThen_ok, ixI w rfl hj]) h
theorem quiet_ixP (x y : Operand) {g f n cap j : Nat} (ho : o.op = .indexAddr 29 x y) (hx : a.eval x = .slice (some ⟨g, f, none⟩) n cap) (hy : a.eval y = .int .i64 (j : Int)) (hj : j < n)
    (h : K (a.put o.dst (.pointer (some ⟨g, f + j, none⟩)))) : o.quiet Try.prog a C K :=
  quiet_val _ (fun w hw => by unfold execOp; simp only [ho, hx, hy, Sem.run_bind, Sem.run_pure, Result.andThen_ok, ixP w rfl hj]) h
end

end Go.Proofs.Ytkcppidmbojglag
