/- A new tree: the program. -/
import Derived.Test.YtagmidolcdefiahPk12
import Derived.Test.YtagmidolcdefiahSlG
import Derived.Test.YtagmidolcdefiahSlV
import Derived.Test.YtagmidolcdefiahSrO
import Derived.Test.YtagmidolcdefiahPk16
namespace Go.Proofs.Ytagmidolcdefiah
open Go.RowKit Go.Shelf
theorem mkBh (n : Nat) (hn : n ≤ 1000) (W : World) : (Instr.makeSlice 31 (.int .i64 (n : Int)) (.int .i64 (n : Int))).run Try.prog W = .ok (.slice (some ⟨W.heap.size, 0, none⟩) n n) (W.alloc (.cells (List.replicate n (Value.slice none 0 0)).toArray 55)) := by
  obtain ⟨i, hi, h1, h2, h3⟩ := info_h infoHL
  have := run_make (P := Try.prog) W 31 55 i _ Try.underlying31 hi h1 .i64 .i64 (n : Int) (n : Int) (by omega) (by omega) (by
    have : (i.bytes : Int) * (n : Int) ≤ 24 * 1000 := Int.mul_le_mul (by omega) (by omega) (by omega) (by omega)
    omega) (by omega)
  rw [this, h2, Int.toNat_natCast, made_one _ rfl, Nat.mul_one]
theorem wpOp_loadRs {ops : Array Oper} {Q : Exit → Act → World → Prop} {i : Nat} {o : Oper} {K : Act → World → Prop} {a : Act} {w : World} (hi : ops[i]? = some o) (hw : Region.wanted o (yielded ops a.tmps) = true) (x : Operand) (ho : o.op = .load 24 x)
    (b f : Nat) (v : Value) (hx : a.eval x = .pointer (some ⟨b, f, none⟩)) (hr : w.cell? ⟨b, f, none⟩ = some v) (h : K (a.put o.dst v) w) : wpOp Try.prog ops Q i K a w :=
  wpOp_val hi hw (by unfold execOp; simp only [ho, Sem.run_bind, Sem.run_pure, Result.andThen_ok, hx, loadRs w b f v hr]) h
theorem wpOp_mkB {ops : Array Oper} {Q : Exit → Act → World → Prop} {i : Nat} {o : Oper} {K : Act → World → Prop} {a : Act} {w : World} (hi : ops[i]? = some o) (hw : Region.wanted o (yielded ops a.tmps) = true) (x y : Operand) (ho : o.op = .makeSlice 31 x y)
    (n : Nat) (hn : n ≤ 1000) (hx : a.eval x = .int .i64 (n : Int)) (hy : a.eval y = .int .i64 (n : Int)) (h : K (a.put o.dst (.slice (some ⟨w.heap.size, 0, none⟩) n n)) (w.alloc (.cells (Array.replicate n (Value.slice none 0 0)) 55))) : wpOp Try.prog ops Q i K a w :=
  wpOp_val hi hw (by unfold execOp; simp only [ho, Sem.run_bind, Sem.run_pure, Result.andThen_ok, hx, hy, mkBh n hn w, List.toArray_replicate]) h
theorem built_tree (s : St) (vc vw : Value) (a : Option Addr) (n c : Nat) : Try.prog.built 104 [(0, .agg (nv s vc vw).toArray), (1, .slice a n c)] = some (tcl s vc vw (.slice a n c)).toArray := by kernel_rfl
/-- while a tree is made -/
structure Tn (W wr : World) (s : Sn) (vc vw : Value) (us : List Value) (rows : List (List Int)) : Prop where
  nb : NB wr W.heap.size s.st vc vw
  tb : wr.heap[W.heap.size + 1 + 1]? = some (.cells (tcl s.st vc vw (.slice (some ⟨W.heap.size + 1, 0, none⟩) s.cs.length s.cs.length)).toArray 104 (0, 0))
  ow : OW wr (W.heap.size + 1) (W.heap.size + 1) us rows
  nt : ∀ (c : Nat) u, us[c]? = some u → u.ownBlock ≠ some (W.heap.size + 1 + 1)
  bel : Below W.heap.size W wr
section
variable {W wr w' : World} {s : Sn} {vc vw : Value} {us : List Value} {rows : List (List Int)}
theorem Tn.next (h : Tn W wr s vc vw us rows) (hb : Below wr.heap.size wr w') : Tn W w' s vc vw us rows := ⟨h.nb.below' hb, (hb.block _ (Array.getElem?_eq_some_iff.1 h.tb).1).trans h.tb, h.ow.next hb, h.nt, below_class h.bel hb⟩
theorem Tn.c15 (h : Tn W wr s vc vw us rows) : wr.cell? ⟨W.heap.size + 1 + 1, 15, none⟩ = some (.slice (some ⟨W.heap.size + 1, 0, none⟩) s.cs.length s.cs.length) := blk_cell h.tb 15
/-- a new list is laid -/
theorem Tn.lay (h : Tn W wr s vc vw us rows) {c : Nat} {u' : Value} {l : List Int} (hcp : c < rows.length) (hb : Below wr.heap.size wr w') (hf : ∀ q, u'.ownBlock = some q → wr.heap.size ≤ q) (ho : OI w' (W.heap.size + 1) u' l) : Tn W (w'.setCell ⟨W.heap.size + 1, c, none⟩ u') s vc vw (us.set c u') (rows.set c l) := by
  have h1 := h.next hb
  have htl := (Array.getElem?_eq_some_iff.1 h.tb).1
  have hcl : c < us.length := by rw [h.ow.len]; exact hcp
  refine ⟨?_, ?_, h.ow.put hcp hb hf ho, fun d v hv => ?_, h1.bel.setCell (p := ⟨W.heap.size + 1, c, none⟩) (by show W.heap.size ≤ W.heap.size + 1; omega) _⟩
  · unfold NB
    rw [Below.heap_setCell w' ⟨W.heap.size + 1, c, none⟩ _ _ (by show W.heap.size ≠ W.heap.size + 1; omega)]
    exact h1.nb
  · rw [Below.heap_setCell w' ⟨W.heap.size + 1, c, none⟩ _ _ (by show W.heap.size + 1 + 1 ≠ W.heap.size + 1; omega)]
    exact h1.tb
  · by_cases e : c = d
    · subst e
      rw [List.getElem?_set_self hcl] at hv
      cases hv
      exact fun e => by have := hf _ e; omega
    · rw [List.getElem?_set_ne e] at hv
      exact h.nt d v hv
/-- a number is written -/
theorem Tn.put (h : Tn W wr s vc vw us rows) {c : Nat} {gl n cap : Nat} {l : List Int} (hu : us[c]? = some (.slice (some ⟨gl, 0, none⟩) n cap)) (hl : rows[c]? = some l) (j : Nat) (v : Int) : Tn W (wr.setCell ⟨gl, j, none⟩ (.int .i64 v)) s vc vw us (rows.set c (l.set j v)) := by
  have ou := h.ow.li c _ l hu hl
  have hlt := ou.lt gl rfl
  have hne : gl ≠ W.heap.size + 1 + 1 := fun e => h.nt c _ hu (by rw [← e]; rfl)
  have hk : Kp (fun k => (Value.slice (some ⟨gl, 0, none⟩) n cap).ownBlock = some k) wr (wr.setCell ⟨gl, j, none⟩ (.int .i64 v)) := (Kp.refl _ wr).set gl j _ (fun _ => rfl)
  refine ⟨h.nb.kp hk (fun e => ?_), (hk.block _ (Array.getElem?_eq_some_iff.1 h.tb).1 (fun e => ?_)).trans h.tb, h.ow.turn hu hl hk (ou.put j v), h.nt, hk.below h.bel h.bel.size (fun i hi e => ?_)⟩
  · have e2 : gl = W.heap.size := by simpa [Value.ownBlock] using e
    omega
  · have e2 : gl = W.heap.size + 1 + 1 := by simpa [Value.ownBlock] using e
    exact hne e2
  · have e2 : gl = i := by simpa [Value.ownBlock] using e
    omega
end
/-- the times behind the first cars -/
def bhk (s : Sn) (c : Nat) : List (List Int) := (bhd s).take c ++ List.replicate (s.cs.length - c) []
/-- and behind the next one, of the first wants -/
def bhj (s : Sn) (c j : Nat) : List Int := ((s.ws.take j).map fun y => alo s (c + 1) y) ++ List.replicate (s.ws.length - j) 0
theorem bhk_zero (s : Sn) : bhk s 0 = List.replicate s.cs.length [] := by unfold bhk; simp
theorem bhk_end (s : Sn) : bhk s s.cs.length = bhd s := by
  unfold bhk
  rw [List.take_of_length_le (by rw [bhd_length]; exact Nat.le_refl _), Nat.sub_self]; simp
theorem bhk_length {s : Sn} {c : Nat} (h : c ≤ s.cs.length) : (bhk s c).length = s.cs.length := by unfold bhk; simp [bhd_length]; omega
theorem bhk_succ {s : Sn} {c : Nat} (h : c < s.cs.length) : (bhk s c).set c (s.ws.map fun y => alo s (c + 1) y) = bhk s (c + 1) := by
  unfold bhk
  rw [List.set_append_right _ _ (by rw [List.length_take, bhd_length]; omega), List.length_take, bhd_length, show c - min c s.cs.length = 0 by omega, show s.cs.length - c = (s.cs.length - (c + 1)) + 1 by omega, List.replicate_succ, List.set_cons_zero, take_snoc (bhd_get s h), List.append_assoc]
  rfl
theorem bhj_zero (s : Sn) (c : Nat) : bhj s c 0 = List.replicate s.ws.length 0 := by unfold bhj; simp
theorem bhj_end (s : Sn) (c : Nat) : bhj s c s.ws.length = s.ws.map fun y => alo s (c + 1) y := by unfold bhj; simp
theorem bhj_length {s : Sn} {c j : Nat} (h : j ≤ s.ws.length) : (bhj s c j).length = s.ws.length := by unfold bhj; simp; omega
theorem bhj_succ {s : Sn} {c j : Nat} {y : Int × Int} (h : s.ws[j]? = some y) : (bhj s c j).set j (alo s (c + 1) y) = bhj s c (j + 1) := by
  have hj : j < s.ws.length := (List.getElem?_eq_some_iff.1 h).1
  unfold bhj
  rw [List.set_append_right _ _ (by rw [List.length_map, List.length_take]; omega), List.length_map, List.length_take, show j - min j s.ws.length = 0 by omega, show s.ws.length - j = (s.ws.length - (j + 1)) + 1 by omega, List.replicate_succ, List.set_cons_zero, take_snoc h, List.map_append, List.append_assoc]
  rfl
end Go.Proofs.Ytagmidolcdefiah
