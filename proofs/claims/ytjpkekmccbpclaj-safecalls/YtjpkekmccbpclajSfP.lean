/- Calls that wait no more, and calls that come: plain mathematics; what a look at such calls holds on its way. -/
import Derived.Test.YtjpkekmccbpclajPk10
namespace Go.Proofs.Ytjpkekmccbpclaj
open Go.RowKit Go.Shelf
namespace SF

theorem op_true {c : Ca} {a : List Cr} {i : Nat} {x : Cr} (ha : a[i]? = some x) (h : op1 c i x = true) : ∀ {n : Nat}, i < n → op c a n = true
  | 0, hn => by omega
  | n + 1, hn => by
    unfold op
    by_cases e : i = n
    · subst e; rw [ha]; simp only [h, Bool.or_true]
    · rw [op_true ha h (n := n) (by omega), Bool.true_or]
theorem op_false {c : Ca} {a : List Cr} (h : ∀ (i : Nat) x, a[i]? = some x → op1 c i x = false) : ∀ n : Nat, op c a n = false
  | 0 => rfl
  | n + 1 => by
    unfold op
    rw [op_false h n, Bool.false_or]
    cases ha : a[n]? with
    | none => rfl
    | some x => exact h n x ha
/-- a car that stands there with an open door -/
def xo (f : Int) : Cr := ⟨f, f, 0, ⟨2, 1, 0, false⟩, false⟩
theorem rc_xo {s : St} (hs : SM.Rt s) {f : Int} (h1 : 0 ≤ f) (h2 : f < s.fl) : CM.Rc s (xo f) :=
  ⟨hs, .inr ⟨Int.le_refl 0, hs.nud1, Int.le_refl 1, by show (1 : Int) ≤ DM.tk s 2; rw [DM.tk2]; exact hs.wai1, by show (1 : Int) ≤ 2; omega, by show (2 : Int) ≤ 3; omega⟩, h1, h2, h1, h2, fun _ => rfl, fun h => absurd rfl h⟩
theorem ti_xo {s : St} {f : Int} {o : Bool} {g : Int} {k : Bool} : (CM.step s (xo f) o g k).ti = 0 := by
  unfold CM.step
  rw [if_neg (by simp [xo]), if_pos (by simp [xo])]
  rfl
theorem rep_at {α : Type} {n i : Nat} {x y : α} (h : (List.replicate n x)[i]? = some y) : y = x := by
  have h1 := List.mem_of_getElem? h
  exact List.eq_of_mem_replicate h1
section
variable {s : St} {f : Int} {b : List Cr}
theorem h1_xo (hs : SM.Rt s) (h1' : 0 ≤ f) (h2' : f < s.fl) {n : Nat} (hn : (n : Int) = s.ca) : h1 s (List.replicate n (xo f)) (List.replicate n (CM.step s (xo f) false (-1) false)) = false := by
  unfold h1
  rw [lp_false fun i x y _ hx hy => by rw [rep_at hx, rep_at hy]; exact sf_step (rc_xo hs h1' h2') false (-1) false]
  have := hs.ca1
  simp
  omega
theorem sd_xo (hs : SM.Rt s) {n : Nat} (hn : (n : Int) = s.ca) (c : Ca) (hc : c.ca = -1) : sd (List.replicate n (xo f)) [] c = decide (f = c.fl) := by
  have hca := hs.ca1
  unfold sd
  by_cases e : f = c.fl
  · rw [op_true (i := 0) (x := xo f) (by rw [List.getElem?_replicate, if_pos (by omega)]) (by simp [op1, hc, xo, e]) (by rw [List.length_replicate]; omega), Bool.or_true, decide_eq_true e]
  · rw [op_false (fun i x hx => by rw [rep_at hx]; simp [op1, xo, e]), Bool.or_false, decide_eq_false e]
    rfl
/-- a call that waits no more -/
theorem tk_gone (hs : SM.Rt s) (h1' : 0 ≤ f) (h2' : f < s.fl) {n : Nat} (hn : (n : Int) = s.ca) (c : Ca) (hc : c.ca = -1) : tk s (List.replicate n (xo f)) (List.replicate n (CM.step s (xo f) false (-1) false)) [c] [] false = if c.fl = f then [] else [2] := by
  unfold tk
  rw [h1_xo hs h1' h2' hn, aw_false]
  have e1 : vn (List.replicate n (xo f)) [c] [] [c].length = !decide (f = c.fl) := by
    show (false || !sd (List.replicate n (xo f)) [] c) = _
    rw [Bool.false_or, sd_xo hs hn c hc]
  rw [e1]
  by_cases e : c.fl = f
  · rw [if_pos e, decide_eq_true e.symm]; rfl
  · rw [if_neg e, decide_eq_false (fun h => e h.symm)]; rfl
/-- a call that grows older -/
theorem tk_olds (hs : SM.Rt s) (h1' : 0 ≤ f) (h2' : f < s.fl) {n : Nat} (hn : (n : Int) = s.ca) (c : Ca) (hg : 0 ≤ c.ag ∧ c.ag ≤ 65535) : tk s (List.replicate n (xo f)) (List.replicate n (CM.step s (xo f) false (-1) false)) [c] [old c] true = [] := by
  have hD : Dd [c] := ⟨fun x hx => by rw [List.mem_singleton] at hx; rw [hx]; exact hg, fun i j x y hi hj _ => by
    have := (List.getElem?_eq_some_iff.1 hi).1
    have := (List.getElem?_eq_some_iff.1 hj).1
    simp at *
    omega⟩
  exact tk_right (M := [c]) hs (by rw [List.length_replicate]; exact hn) (by rw [List.length_replicate, List.length_replicate]) (fun i x y hx hy => by rw [rep_at hx, rep_at hy]; exact sf_step (rc_xo hs h1' h2') false (-1) false) (aw_stand (fun i y hy => by rw [rep_at hy]; exact ti_xo) _) hD
/-- a call that comes -/
theorem tk_come (hs : SM.Rt s) (h1' : 0 ≤ f) (h2' : f < s.fl) {n : Nat} (hn : (n : Int) = s.ca) (c : Ca) : tk s (List.replicate n (xo f)) (List.replicate n (CM.step s (xo f) false (-1) false)) [] [c] false = if c.ag = 1 then [] else [4] := by
  unfold tk
  rw [h1_xo hs h1' h2' hn, aw_false]
  have e1 : yg [] [c] [c].length = decide (c.ag ≠ 1) := by
    show (false || yg1 [] [c] 0 c) = _
    rw [Bool.false_or]
    unfold yg1
    have h0 : la [c] c [c].length = 0 := by show (if alk c c = true then ((0 : Nat) : Int) else _) = 0; rw [if_pos (alk_refl c)]; rfl
    rw [h0]
    have h3 : ag1 [] (la [] c ([] : List Ca).length) = 1 := rfl
    rw [h3]
    simp
  rw [e1]
  by_cases e : c.ag = 1
  · rw [if_pos e, decide_eq_false (fun h => h e)]; rfl
  · rw [if_neg e, decide_eq_true e]; rfl
end
end SF

/-- two rows of cars -/
structure Es (s : St) (W wr : World) (va vb : Value) (a b : List Cr) : Prop where
  ns : Ns s W wr va a
  ob : OG ckv 8 36 wr (W.heap.size + 1) vb b
  d : ∀ g, vb.ownBlock = some g → va.ownBlock ≠ some g
section
variable {s : St} {W wr w' : World} {va vb : Value} {a b : List Cr}
theorem Es.next (h : Es s W wr va vb a b) (hb : Below wr.heap.size wr w') : Es s W w' va vb a b := ⟨h.ns.next hb, h.ob.below' hb, h.d⟩
theorem Es.add (h : Es s W wr va vb a b) {v' : Value} {b' : List Cr} (hg : wr.grownBy w' vb.ownBlock) (ho : OG ckv 8 36 w' (W.heap.size + 1) v' b') (hat : ∀ g, v'.ownBlock = some g → vb.ownBlock = some g ∨ g = wr.heap.size) : Es s W w' va v' a b' := by
  have hlt := h.ns.lt
  have kk : ∀ g, g < wr.heap.size → vb.ownBlock ≠ some g → w'.heap[g]? = wr.heap[g]? := fun g h1 h2 => hg.block g h1 (fun e => h2 e.symm)
  refine ⟨⟨(kk _ (by omega) fun e => by have := (h.ob.lt _ e).1; omega).trans h.ns.sb, h.ns.ow.keep fun g e => kk g (h.ns.ow.lt g e).2 (fun e2 => h.d g e2 e), h.ns.be.trans ⟨hg.os, hg.tape, hg.output, by have := hg.size; omega, fun k hk => hg.block k (by omega) (fun e => by have := (h.ob.lt k e.symm).1; omega)⟩⟩, ho, fun g e e2 => ?_⟩
  rcases hat g e with e3 | e3
  · exact h.d g e3 e2
  · have := (h.ns.ow.lt g e2).2; omega
theorem Es.new (h : Ns s W wr va a) : Es s W (wr.alloc (.cells #[] 36)) va (.slice (some ⟨wr.heap.size, 0, none⟩) 0 0) a [] := by
  have hlt := h.lt
  refine ⟨h.next ((Below.refl _ _).alloc (Nat.le_refl _) _), OG.nil ckv 8 wr (by omega), fun g e e2 => ?_⟩
  have e3 : wr.heap.size = g := by simpa [Value.ownBlock] using e
  have := (h.ow.lt g e2).2
  omega
end

/-- two rows of cars, a call, and the same one older -/
structure Us (s : St) (W wr : World) (va vb : Value) (a b : List Cr) (c1 c2 : Nat) (c : Ca) : Prop where
  es : Es s W wr va vb a b
  k1 : KB wr c1 c
  k2 : KB wr c2 (SF.old c)
theorem Us.next {s : St} {W wr w' : World} {va vb : Value} {a b : List Cr} {c1 c2 : Nat} {c : Ca} (h : Us s W wr va vb a b c1 c2 c) (hb : Below wr.heap.size wr w') : Us s W w' va vb a b c1 c2 c := ⟨h.es.next hb, h.k1.below' hb, h.k2.below' hb⟩
theorem RC.one (W : World) (c : Ca) : RC (fun _ => True) (W.alloc (.cells #[.int .i64 c.fl, .int .i64 c.ca, .int .i64 c.ag, .bool c.up] 43)) (.slice (some ⟨W.heap.size, 0, none⟩) 1 1) [c] :=
  ⟨_, 1, rfl, Nat.le_refl _, .inr ⟨W.heap.size, 0, rfl, trivial, (KB.new W c).lt, fun i y hy => by
    have h0 : i = 0 := by have := (List.getElem?_eq_some_iff.1 hy).1; simp at this; exact this
    subst h0
    cases hy
    exact (KB.new W c).rng⟩⟩

theorem wpList_loadClg {ops : Array Oper} {rest : List Oper} {op : Oper} {a : Act} {w : World} {Q : Exit → Act → World → Prop} (hgd : Region.wanted op (yielded ops a.tmps) = true) (x : Operand) (ho : op.op = .load 43 x) (g o : Nat) {c : Ca} (hx : a.eval x = .pointer (some ⟨g, o, none⟩)) (hC : w.rangeAt g o (cav c))
    (hn : wpList Try.prog ops Q rest (a.put op.dst (.agg #[.int .i64 c.fl, .int .i64 c.ca, .int .i64 c.ag, .bool c.up])) w) : wpList Try.prog ops Q (op :: rest) a w :=
  wpList_step fun _ hK => by
    rw [if_pos hgd]
    unfold Oper.wp execOp
    simp only [ho, Sem.run_bind, Sem.run_pure, Result.andThen_ok, hx, loadCl w g o c hC]
    exact hK _ _ hn

end Go.Proofs.Ytjpkekmccbpclaj
