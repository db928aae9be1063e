/- Several texts in one, each with its own head. -/
import Derived.Test.YtagmidolcdefiahPk4
import Derived.Test.YtagmidolcdefiahPk9
import Derived.Test.YtagmidolcdefiahPk10
import Derived.Test.YtagmidolcdefiahPk3
/- The example of the document, and rows that are typed. -/
namespace Go.Proofs.Ytagmidolcdefiah
open Go.RowKit
/-- the example's site -/
def exSt : St := ⟨5, 1, 0, 2, 0, 3, 1, 1, 0, 1, 1, 1, 1⟩
theorem R2.lit1 (D : Nat → Prop) (W : World) (b cap : Nat) (y : Int × Int) (hD : D b) (hl : b < W.heap.size) (hc : 1 ≤ cap) (h1 : W.cell? ⟨b, 0, none⟩ = some (.int .i64 y.1)) (h2 : W.cell? ⟨b, 1, none⟩ = some (.int .i64 y.2)) : R2 D W (.slice (some ⟨b, 0, none⟩) 1 cap) [y] := by
  refine ⟨_, cap, rfl, hc, (fun e => by cases e), .inr ⟨b, 0, rfl, hD, hl, fun i z hz => ?_⟩⟩
  cases i with
  | zero => cases hz; exact ⟨h1, h2⟩
  | succ i => simp at hz
theorem RL.lit1 (D : Nat → Prop) (W : World) (b cap : Nat) (u : Value) (l : List Int) (hD : D b) (hl : b < W.heap.size) (hc : 1 ≤ cap) (h1 : W.cell? ⟨b, 0, none⟩ = some u) (h2 : RI D W u l) : RL D W (.slice (some ⟨b, 0, none⟩) 1 cap) [l] := by
  refine ⟨_, cap, rfl, hc, (fun e => by cases e), .inr ⟨b, 0, rfl, hD, hl, fun i m hm => ?_⟩⟩
  cases i with
  | zero => cases hm; exact ⟨u, h1, h2⟩
  | succ i => simp at hm
theorem RI.lit1 (D : Nat → Prop) (W : World) (b cap : Nat) (x : Int) (hD : D b) (hl : b < W.heap.size) (hc : 1 ≤ cap) (h1 : W.cell? ⟨b, 0, none⟩ = some (.int .i64 x)) : RI D W (.slice (some ⟨b, 0, none⟩) 1 cap) [x] := by
  refine ⟨_, cap, rfl, hc, (fun e => by cases e), .inr ⟨b, 0, rfl, hD, hl, fun i y hy => ?_⟩⟩
  cases i with
  | zero => cases hy; exact h1
  | succ i => simp at hy
end Go.Proofs.Ytagmidolcdefiah

/- What the laws on searches and on checks share. -/
namespace Go.Proofs.Ytagmidolcdefiah
open Go.RowKit Go.Shelf
theorem prl_len : ∀ (q : List (List Int)), (∀ l ∈ q, l.length ≤ 128) → (prl q).length ≤ 129 * q.length
  | [], _ => Nat.le_refl _
  | a :: q, hq => by
    have h1 := prl_len q fun l hl => hq l (by simp [hl])
    have h2 := hq a (by simp)
    show (a.length :: a.map Int.toNat ++ prl q).length ≤ _
    rw [List.length_append, List.length_cons, List.length_map, List.length_cons]
    omega
theorem fs_ll {s : Sn} {p : List (List Int)} (h : Fs s p) : ∀ l ∈ p, l.length ≤ 128 ∧ ∀ z ∈ l, 0 ≤ z ∧ z < 128 := fun l hl => by
  have hin : ∀ x ∈ l, 0 ≤ x ∧ x < s.ws.length := fun x hx => h.fr x (List.mem_flatten.2 ⟨l, hl, hx⟩)
  have hwl := h.wl
  refine ⟨?_, fun z hz => by have := hin z hz; omega⟩
  have hnd : l.Nodup := (RM.fz_nodup h.fz).sublist (List.sublist_flatten_of_mem hl)
  have hsum := RM.sum_sr (n := s.ws.length) (fun _ => 1) hnd hin
  have hle := RM.sr_le (n := s.ws.length) (f := fun w => if (w : Int) ∈ l then 1 else 0) (g := fun _ => 1) (fun i _ => by split <;> omega)
  have hone : ∀ m : Nat, RM.sr m (fun _ => 1) = (m : Int) := fun m => by
    induction m with
    | zero => rfl
    | succ m ih => rw [RM.sr, ih]; omega
  have hlen : ∀ m : List Int, (m.map fun _ => (1 : Int)).sum = (m.length : Int) := fun m => by
    induction m with
    | nil => rfl
    | cons a m ih => rw [List.map_cons, List.sum_cons, ih, List.length_cons]; omega
  rw [hlen] at hsum
  rw [hone] at hle
  omega
theorem fnd_bd {s : Sn} {B : Nat} (hr : rgt s = true) : (0 ≤ (fnd s B).cost ∧ (fnd s B).cost ≤ 10240000000) ∧ (fnd s B).plan.length ≤ 8 ∧ (∀ l ∈ (fnd s B).plan, l.length ≤ 128 ∧ ∀ z ∈ l, 0 ≤ z ∧ z < 128) ∧ (fnd s B).marks.length = (fnd s B).nodes ∧ (fnd s B).nodes ≤ B := by
  have hok := fnd_ok hr B
  have hf := fsb_fs hok.fe
  have hl := fs_ll hf
  refine ⟨?_, hf.p8, hl, vis_ml _ _ _ _ _ rfl, hok.nb⟩
  rw [hok.co]
  exact hf.cost fun l h => by have := (hl l h).1; omega
theorem OY.some {w : World} {B : Nat} {v : Value} {l : List Nat} (h : OY w B v l) (hl : l ≠ []) : ∃ g cap, v = .slice (some ⟨g, 0, none⟩) l.length cap := by
  rcases h.form with ⟨_, e⟩ | ⟨g, cap, e, _⟩
  · exact absurd e hl
  · exact ⟨g, cap, e⟩
/-- the example -/
def exNn : Sn := ⟨exSt, [(0, 4)], []⟩
theorem exn_rgt : rgt exNn = true := by decide
theorem exn_fnd : fnd exNn 1 = ⟨1, false, [[]], 0, [2]⟩ := by rfl
theorem wpOp_load27 {ops : Array Oper} {Q : Exit → Act → World → Prop} {i : Nat} {o : Oper} {K : Act → World → Prop} {a : Act} {w : World} (hi : ops[i]? = some o) (hw : Region.wanted o (yielded ops a.tmps) = true) (x : Operand) (ho : o.op = .load 27 x)
    (b : Nat) (s : St) (vc vw : Value) (hx : a.eval x = .pointer (some ⟨b, 0, none⟩)) (hr : NB w b s vc vw) (h : K (a.put o.dst (.agg (nv s vc vw).toArray)) w) : wpOp Try.prog ops Q i K a w :=
  wpOp_val hi hw (by unfold execOp; simp only [ho, Sem.run_bind, Sem.run_pure, Result.andThen_ok, hx, load27 w b s vc vw hr.range]) h
section
variable {C : World → Prop} {K : Act → Prop} {o : Oper} {a : Act}
theorem quiet_cell3 (x : Operand) (b k : Nat) {v : Value} (ho : o.op = .load 3 x) (hx : a.eval x = .pointer (some ⟨b, k, none⟩)) (hr : ∀ w, C w → w.cell? ⟨b, k, none⟩ = some v) (h : K (a.put o.dst v)) : o.quiet Try.prog a C K :=
  quiet_val _ (fun w hw => by
    have hl : (Instr.loadAt 3 (.pointer (some ⟨b, k, none⟩))).run Try.prog w = .ok v w := by simp [go_sem, hr w hw]
    unfold execOp; simp only [ho, hx, Sem.run_bind, Sem.run_pure, Result.andThen_ok, hl]) h
theorem quiet_cell4 (x : Operand) (b k : Nat) {v : Value} (ho : o.op = .load 4 x) (hx : a.eval x = .pointer (some ⟨b, k, none⟩)) (hr : ∀ w, C w → w.cell? ⟨b, k, none⟩ = some v) (h : K (a.put o.dst v)) : o.quiet Try.prog a C K :=
  quiet_val _ (fun w hw => by
    have hl : (Instr.loadAt 4 (.pointer (some ⟨b, k, none⟩))).run Try.prog w = .ok v w := by simp [go_sem, hr w hw]
    unfold execOp; simp only [ho, hx, Sem.run_bind, Sem.run_pure, Result.andThen_ok, hl]) h
theorem quiet_cellP (x : Operand) (b k : Nat) {v : Value} (ho : o.op = .load 32 x) (hx : a.eval x = .pointer (some ⟨b, k, none⟩)) (hr : ∀ w, C w → w.cell? ⟨b, k, none⟩ = some v) (h : K (a.put o.dst v)) : o.quiet Try.prog a C K :=
  quiet_val _ (fun w hw => by
    have hl : (Instr.loadAt 32 (.pointer (some ⟨b, k, none⟩))).run Try.prog w = .ok v w := by simp [go_sem, hr w hw]
    unfold execOp; simp only [ho, hx, Sem.run_bind, Sem.run_pure, Result.andThen_ok, hl]) h
end
end Go.Proofs.Ytagmidolcdefiah
