/- A car that goes on later; snapshots that are copied and changed. -/
import Derived.Test.YtkcppidmbojglafRtS
import Derived.Test.YtkcppidmbojglafRtT
import Derived.Test.YtkcppidmbojglafO2
namespace Go.Proofs.Ytkcppidmbojglaf
open Go.RowKit

namespace RM
theorem go_sh {s : St} {n : Int} (hn : 0 ≤ n) (r : SM.Rt s) : ∀ {l : List Int} {a : Sp}, Ok s a → In s l → go s (sh n a) l = sh n (go s a l)
  | [], _, _, _ => rfl
  | f :: l, a, ok, hl => by
    show go s (nx s (sh n a) f) l = sh n (go s (nx s a f) l)
    rw [nx_sh hn r ok, go_sh hn r (nx_ok r ok hl.cons.1.1 hl.cons.1.2) hl.cons.2]
end RM
/-- the snapshot with one car that goes on later -/
def latr (s : Sn) (c : Nat) (y : Int × Int) (n : Int) : Sn := ⟨s.st, s.cs.set c (y.1, y.2 + n), s.ws⟩
section
variable {s : Sn} {p : List (List Int)} {c : Nat} {y : Int × Int} {n : Int}
theorem latr_rgt (h : rgt s = true) (hc : s.cs[c]? = some y) (h0 : 0 ≤ n) (h1 : y.2 + n ≤ 1000000) : rgt (latr s c y n) = true := by
  unfold rgt at h ⊢
  simp only [Bool.and_eq_true, decide_eq_true_eq] at h ⊢
  obtain ⟨⟨⟨⟨a1, a2⟩, a3⟩, a4⟩, a5⟩ := h
  refine ⟨⟨⟨⟨a1, ?_⟩, a3⟩, ?_⟩, a5⟩
  · show ((s.cs.set c _).length : Int) = _
    rw [List.length_set]; exact a2
  · rw [List.all_eq_true] at a4 ⊢
    intro x hx
    rcases List.mem_or_eq_of_mem_set hx with h | h
    · exact a4 x h
    · have := a4 y (List.mem_of_getElem? hc)
      rw [h]
      unfold cok at this ⊢
      simp only [Bool.and_eq_true, decide_eq_true_eq] at this ⊢
      exact ⟨⟨⟨this.1.1.1, this.1.1.2⟩, by show 0 ≤ y.2 + n; have := this.1.2; omega⟩, h1⟩
theorem latr_fsb (h : fsb s p = true) (hc : s.cs[c]? = some y) (h0 : 0 ≤ n) (h1 : y.2 + n ≤ 1000000) : fsb (latr s c y n) p = true := by
  unfold fsb at h ⊢
  simp only [Bool.and_eq_true, decide_eq_true_eq] at h ⊢
  refine ⟨⟨latr_rgt h.1.1 hc h0 h1, ?_⟩, h.2⟩
  show p.length = (s.cs.set c _).length
  rw [List.length_set]; exact h.1.2
/-- what becomes of a want's time -/
theorem latr_get (h : Fs s p) (h' : Fs (latr s c y n) p) (hc : s.cs[c]? = some y) (h0 : 0 ≤ n) {i j : Nat} {l : List Int} {x : Int} (hl : p[i]? = some l) (hx : l[j]? = some x) :
    ∃ t, (RM.wts s.st s.ws s.cs p)[x.toNat]? = some t ∧ (RM.wts s.st s.ws (s.cs.set c (y.1, y.2 + n)) p)[x.toNat]? = some (t + if i = c then n else 0) := by
  have hi : i < s.cs.length := by have := (List.getElem?_eq_some_iff.1 hl).1; have := h.pc; omega
  obtain ⟨r, hr⟩ : ∃ r, s.cs[i]? = some r := ⟨_, List.getElem?_eq_getElem hi⟩
  have g1 := RM.prs_at (s := s.st) (ws := s.ws) hr hl hx
  refine ⟨_, RM.wts_get h.fz h.ml h.pc g1, ?_⟩
  have hall : ∀ x ∈ l, 0 ≤ x ∧ x < s.ws.length := fun x hx => h.fr x (List.mem_flatten.2 ⟨l, List.mem_of_getElem? hl, hx⟩)
  have hin := h.rz.inn (l := l.take j) fun x hx => hall x (List.mem_of_mem_take hx)
  have ok := h.rz.cr r (List.mem_of_getElem? hr)
  by_cases e : c = i
  · subst e
    rw [hc] at hr
    cases hr
    have g2 := RM.prs_at (s := s.st) (ws := s.ws) (cs := s.cs.set c (y.1, y.2 + n)) (r := (y.1, y.2 + n)) (List.getElem?_set_self hi) hl hx
    rw [RM.sh_bg, RM.go_sh h0 h.rz.rt ok hin, RM.ar_sh h0 (RM.go_ok h.rz.rt ok hin)] at g2
    rw [if_pos rfl]
    exact RM.wts_get h'.fz h'.ml h'.pc g2
  · have g2 := RM.prs_at (s := s.st) (ws := s.ws) (cs := s.cs.set c (y.1, y.2 + n)) (by rw [List.getElem?_set_ne e]; exact hr) hl hx
    rw [if_neg (Ne.symm e), Int.add_zero]
    exact RM.wts_get h'.fz h'.ml h'.pc g2
end

/- a snapshot's block that is written -/
theorem nv_one (s : St) {vc vw : Value} (h1 : vc.oneCell' = true) (h2 : vw.oneCell' = true) : ∀ u ∈ nv s vc vw, u.oneCell' = true := by
  intro u hu
  simp only [nv, List.mem_cons, List.not_mem_nil, or_false] at hu
  rcases hu with h | h | h | h | h | h | h | h | h | h | h | h | h | h | h
  all_goals rw [h]
  all_goals first | rfl | assumption
theorem wpList_store27 {ops : Array Oper} {rest : List Oper} {op : Oper} {a : Act} {w : World} {Q : Exit → Act → World → Prop} (hgd : op.guard = none) (x y : Operand) (ho : op.op = .store 27 x y)
    (b : Nat) {s : St} {vc vw : Value} (old : Array Value) (hx : a.eval x = .pointer (some ⟨b, 0, none⟩)) (hy : a.eval y = .agg (nv s vc vw).toArray) (h1 : vc.oneCell' = true) (h2 : vw.oneCell' = true) (hL : w.heap[b]? = some (.cells old 27 (0, 0))) (hs : old.size = 15)
    (hn : ∀ W', Kp (fun k => k = b) w W' → NB W' b s vc vw → wpList Try.prog ops Q rest (a.put op.dst undef) W') : wpList Try.prog ops Q (op :: rest) a w :=
  wpList_store_row hgd 27 x y ho b _ hx hy _ _ hL info27 (by rw [hs]; rfl) (by simpa using nv_one s h1 h2) (hn _ (kp_row b w _) (setRow_heap w b _ _ _ _ hL))
theorem NB.putc {W : World} {b : Nat} {s : St} {vc vw : Value} (h : NB W b s vc vw) (v : Value) : NB (W.setCell ⟨b, 13, none⟩ v) b s v vw := by
  have := heap_setCell_same W b 13 _ 27 v h
  exact this
theorem NB.putw {W : World} {b : Nat} {s : St} {vc vw : Value} (h : NB W b s vc vw) (v : Value) : NB (W.setCell ⟨b, 14, none⟩ v) b s vc v := by
  have := heap_setCell_same W b 14 _ 27 v h
  exact this
theorem NB.fr {W : World} {b : Nat} {s : St} {vc vw : Value} (h : NB W b s vc vw) (i : Nat) : W.frozen? ⟨b, i, none⟩ = false := by simp [World.frozen?, show W.heap[b]? = _ from h]
theorem infoR : (Try.prog.info? 51).map (fun i => (i.zero, i.size, i.bytes)) = some (some (.agg #[.int .i64 0, .int .i64 0]), 2, 16) := by kernel_rfl
theorem infoW : (Try.prog.info? 40).map (fun i => (i.zero, i.size, i.bytes)) = some (some (.agg #[.int .i64 0, .int .i64 0]), 2, 16) := by kernel_rfl

end Go.Proofs.Ytkcppidmbojglaf
