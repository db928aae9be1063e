/-
  A REGION THAT DRAWS ITS ORDER, in three parts: its head reads and calls (the callees may make memory, and leave all that was there); then new variables are made; then they are stored into.
  The making of a variable waits for nothing: it may come up between any two of the head's operations, so that its block's number hangs on the order. Here: ONE walk of the head, in lexical order, serves every order; the new variables' blocks are letters.
  No program is named here.
-/
import Derived.Test.YtkcppidmbojglafSiteB
import Derived.StillTail
import Derived.Deep.Quiet
namespace Go.Proofs.Ytkcppidmbojglaf
open Go.RowKit

section
variable {P : Program} {ops : Array Oper} {md : Region.Mode} {W0 : World}

/-- in this state, in every world that has grown out of W0, the operation leaves v, and a world that has grown out of the one that it got -/
def Calm (P : Program) (ops : Array Oper) (W0 : World) (o : Oper) (v : Value) (a : Act) : Prop :=
  (Region.wanted o (yielded ops a.tmps) = true ∧ ∀ w, Below W0.heap.size W0 w → o.quietAt P a (fun w2 => Below w.heap.size w w2) w v) ∨
  (Region.wanted o (yielded ops a.tmps) = false ∧ v = undef)
theorem Calm.same {o : Oper} {v : Value} {a a' : Act} (h : Calm P ops W0 o v a) (he : execOp a'.eval o = execOp a.eval o) (hw : Region.wanted o (yielded ops a'.tmps) = Region.wanted o (yielded ops a.tmps)) : Calm P ops W0 o v a' := by
  unfold Calm Oper.quietAt at *
  rw [he, hw]
  exact h

/-- one operation of the head -/
def Oper.calm (P : Program) (W0 : World) (o : Oper) (a : Act) (K : Act → Prop) : Prop :=
  ∃ v, (∀ w, Below W0.heap.size W0 w → o.quietAt P a (fun w2 => Below w.heap.size w w2) w v) ∧ K (a.put o.dst v)
/-- the walk of the head, in lexical order -/
def wpCalm (P : Program) (ops : Array Oper) (W0 : World) (Q : Act → Prop) : List Oper → Act → Prop
  | [], a => Q a
  | o :: rest, a => if Region.wanted o (yielded ops a.tmps) then Oper.calm P W0 o a (wpCalm P ops W0 Q rest) else wpCalm P ops W0 Q rest (a.put o.dst undef)
theorem wpCalm_nil {Q : Act → Prop} {a : Act} (h : Q a) : wpCalm P ops W0 Q [] a := h
theorem wpCalm_mono {Q Q' : Act → Prop} (hQ : ∀ a, Q a → Q' a) : ∀ (l : List Oper) (a : Act), wpCalm P ops W0 Q l a → wpCalm P ops W0 Q' l a
  | [], a, h => hQ a h
  | o :: l, a, h => by
    unfold wpCalm at *
    split
    · rename_i hw
      rw [if_pos hw] at h
      obtain ⟨v, h1, h2⟩ := h
      exact ⟨v, h1, wpCalm_mono hQ l _ h2⟩
    · rename_i hw
      rw [if_neg hw] at h
      exact wpCalm_mono hQ l _ h
theorem wpCalm_cons {Q : Act → Prop} {a : Act} {o : Oper} {rest : List Oper} (h : wpCalm P ops W0 Q (o :: rest) a) : ∃ v, Calm P ops W0 o v a ∧ wpCalm P ops W0 Q rest (a.put o.dst v) := by
  unfold wpCalm at h
  by_cases hw : Region.wanted o (yielded ops a.tmps) = true
  · rw [if_pos hw] at h
    obtain ⟨v, h1, h2⟩ := h
    exact ⟨v, .inl ⟨hw, h1⟩, h2⟩
  · rw [if_neg hw] at h
    exact ⟨undef, .inr ⟨by simpa using hw, rfl⟩, h⟩

/-! ### the orders of the head -/
/-- what may come up next, of the first n -/
def rdy (md : Region.Mode) (ops : Array Oper) (n : Nat) (done : Nat → Bool) (i : Nat) : Prop :=
  i < n ∧ done i = false ∧ ∃ o, ops[i]? = some o ∧ ∀ e ∈ o.after, Region.binds md e = true → done e.on = true
/-- one more is done -/
def more (done : Nat → Bool) (i : Nat) : Nat → Bool := fun j => if j = i then true else done j
theorem more_ne {done : Nat → Bool} {i j : Nat} (h : j ≠ i) : more done i j = done j := if_neg h
theorem more_true {done : Nat → Bool} {i j : Nat} (h : done j = true) : more done i j = true := by unfold more; split <;> first | rfl | exact h
theorem more_comm (done : Nat → Bool) (i j : Nat) : more (more done i) j = more (more done j) i := by
  funext k; unfold more; split <;> split <;> rfl
theorem rdy_more {n : Nat} {done : Nat → Bool} {i j : Nat} (h : rdy md ops n done j) (hne : j ≠ i) : rdy md ops n (more done i) j := by
  obtain ⟨h1, h2, o, ho, hall⟩ := h
  exact ⟨h1, by rw [more_ne hne]; exact h2, o, ho, fun e he hb => more_true (hall e he hb)⟩

/-- whatever order the head takes -/
def AnyF (P : Program) (md : Region.Mode) (ops : Array Oper) (W0 : World) (n : Nat) (Q : Act → Prop) : Nat → (Nat → Bool) → Act → Prop
  | 0, done, a => (∀ i, i < n → done i = true) ∧ Q a
  | f + 1, done, a => (∃ i, rdy md ops n done i) ∧ ∀ i o, ops[i]? = some o → rdy md ops n done i → ∃ v, Calm P ops W0 o v a ∧ AnyF P md ops W0 n Q f (more done i) (a.put o.dst v)

theorem anyF_first {n : Nat} {Q : Act → Prop} {i : Nat} {oi : Oper} {v : Value} (hi : ops[i]? = some oi) (hsel : ∀ (j : Nat) (o : Oper) cs b, ops[j]? = some o → o.op ≠ .select cs b) :
    ∀ (f : Nat) (done : Nat → Bool) (a : Act),
      (∀ j oj, ops[j]? = some oj → j < n → j ≠ i → done j = false → (∀ e ∈ oj.after, Region.binds md e = true → e.on ≠ i) → oi.apart ops oj = true) →
      rdy md ops n done i → Calm P ops W0 oi v a → AnyF P md ops W0 n Q f (more done i) (a.put oi.dst v) → AnyF P md ops W0 n Q (f + 1) done a := by
  intro f
  induction f with
  | zero =>
    intro done a _ hr hy H
    refine ⟨⟨i, hr⟩, fun j oj hj hrj => ?_⟩
    by_cases hji : j = i
    · subst hji
      obtain rfl : oi = oj := Option.some.inj (hi.symm.trans hj)
      exact ⟨v, hy, H⟩
    · have h1 := H.1 j hrj.1
      rw [more_ne hji, hrj.2.1] at h1
      cases h1
  | succ f ih =>
    intro done a hfree hr hy H
    refine ⟨⟨i, hr⟩, fun j oj hj hrj => ?_⟩
    by_cases hji : j = i
    · subst hji
      obtain rfl : oi = oj := Option.some.inj (hi.symm.trans hj)
      exact ⟨v, hy, H⟩
    · obtain ⟨u, hu, hn⟩ := H.2 j oj hj (rdy_more hrj hji)
      have hno : ∀ e ∈ oj.after, Region.binds md e = true → e.on ≠ i := fun e he hb heq => by
        obtain ⟨_, _, o', ho', hall⟩ := hrj
        obtain rfl : o' = oj := Option.some.inj (ho'.symm.trans hj)
        have h1 := hall e he hb
        rw [heq, hr.2.1] at h1
        cases h1
      obtain ⟨h1, h2, h3⟩ := Oper.apart_spec (hfree j oj hj hrj.1 hji hrj.2.1 hno)
      have k1 : Calm P ops W0 oj u a := hu.same (execOp_put oj (fun cs b => hsel j oj cs b hj) a oi.dst v h1).symm (wanted_put oj a oi.dst v h1).symm
      have k2 : Calm P ops W0 oi v (a.put oj.dst u) := hy.same (execOp_put oi (fun cs b => hsel i oi cs b hi) a oj.dst u h3) (wanted_put oi a oj.dst u h3)
      refine ⟨u, k1, ih (more done j) (a.put oj.dst u) (fun k ok hk hkn hki hun hno' => hfree k ok hk hkn hki ?_ hno') (rdy_more hr (Ne.symm hji)) k2 ?_⟩
      · by_cases hkj : k = j
        · subst hkj; exact hrj.2.1
        · rwa [more_ne hkj] at hun
      · rw [more_comm, ← Act.put_comm a v u h2]
        exact hn

/-- the head's lexical order is one of its orders, and all that don't wait for one another are apart -/
def headB (md : Region.Mode) (ops : Array Oper) (n : Nat) : Bool :=
  (List.range n).all fun i => match ops[i]? with
    | none => false
    | some oi => (oi.after.all fun e => !Region.binds md e || decide (e.on < i)) && (List.range n).all fun j => decide (j ≤ i) || Region.waitsFor md ops j i || match ops[j]? with
      | none => true
      | some oj => oi.apart ops oj
theorem headB_on {n i : Nat} {oi : Oper} (h : headB md ops n = true) (hi : i < n) (ho : ops[i]? = some oi) : ∀ e ∈ oi.after, Region.binds md e = true → e.on < i := fun e he hb => by
  have h1 := List.all_eq_true.1 h i (List.mem_range.2 hi)
  simp only [ho, Bool.and_eq_true] at h1
  have h2 := Array.all_eq_true_iff_forall_mem.1 h1.1 e he
  simpa [hb] using h2
theorem headB_apart {n i j : Nat} {oi oj : Oper} (h : headB md ops n = true) (hi : i < n) (ho : ops[i]? = some oi) (hj : j < n) (hoj : ops[j]? = some oj) (hij : i < j)
    (hno : ∀ e ∈ oj.after, Region.binds md e = true → e.on ≠ i) : oi.apart ops oj = true := by
  have h1 := List.all_eq_true.1 h i (List.mem_range.2 hi)
  simp only [ho, Bool.and_eq_true] at h1
  have h2 := List.all_eq_true.1 h1.2 j (List.mem_range.2 hj)
  simp only [hoj, Bool.or_eq_true, decide_eq_true_eq] at h2
  rcases h2 with (h2 | h2) | h2
  · omega
  · obtain ⟨o', ho', e, he, hb, hon⟩ := Region.waitsFor_spec h2
    obtain rfl : o' = oj := Option.some.inj (ho'.symm.trans hoj)
    exact absurd hon (hno e he hb)
  · exact h2

theorem anyF_lex {n : Nat} {Q : Act → Prop} (hsel : Region.noSelect ops = true) (hB : headB md ops n = true) : ∀ (l : List Oper) (k : Nat) (a : Act), (∀ j, j < l.length → l[j]? = ops[k + j]?) → k + l.length = n →
    wpCalm P ops W0 Q l a → AnyF P md ops W0 n Q l.length (fun j => decide (j < k)) a
  | [], k, a, _, hk, h => ⟨fun i hi => decide_eq_true (by simp only [List.length_nil] at hk; omega), h⟩
  | o :: l, k, a, hl, hk, h => by
    have h0 : ops[k]? = some o := by simpa using (hl 0 (by simp)).symm
    have hkn : k < n := by simp only [List.length_cons] at hk; omega
    obtain ⟨v, hy, hK⟩ := wpCalm_cons h
    have IH := anyF_lex (Q := Q) hsel hB l (k + 1) (a.put o.dst v) (fun j hj => by have := hl (j + 1) (by simp; omega); simpa [Nat.add_assoc, Nat.add_comm 1 j] using this) (by simp only [List.length_cons] at hk; omega) hK
    have e : (fun j => decide (j < k + 1)) = more (fun j => decide (j < k)) k := by
      funext j
      unfold more
      split
      · rename_i hjk; subst hjk; simp
      · by_cases hjk : j < k
        · simp [hjk]; omega
        · simp [hjk]; omega
    rw [e] at IH
    refine anyF_first h0 (Region.noSelect_spec hsel) l.length _ a (fun j oj hj hjn hne hun hno => ?_) ⟨hkn, by simp, o, h0, fun e he hb => decide_eq_true (headB_on hB hkn h0 e he hb)⟩ hy IH
    have : ¬ j < k := of_decide_eq_false hun
    exact headB_apart hB hkn h0 hjn hj (by omega) hno

/-! ### the new variables -/
/-- where operation number j puts its value -/
def dstOf (ops : Array Oper) (j : Nat) : Option Tmp := (ops[j]?).bind (·.dst)
/-- the new variables' pointers, over a frame -/
def ov (ops : Array Oper) : List (Nat × Nat) → Act → Act
  | [], a => a
  | p :: σ, a => (ov ops σ a).put (dstOf ops p.1) (.pointer (some ⟨p.2, 0, none⟩))
/-- an operation that makes a variable -/
structure IsNew (P : Program) (ops : Array Oper) (j : Nat) (o : Oper) (Z : Obj) : Prop where
  here : ops[j]? = some o
  after : o.after = #[]
  wants : ∀ tmps, Region.wanted o (yielded ops tmps) = true
  runs : ∀ (a : Act) w, (execOp a.eval o).run P w = .ok (.value (.pointer (some ⟨w.heap.size, 0, none⟩))) (w.alloc Z)
/-- the new variables are apart from the head -/
def newB (ops : Array Oper) (n m : Nat) : Bool :=
  (List.range m).all fun j => decide (j < n) || match ops[j]? with
    | none => false
    | some oj => (List.range n).all fun i => match ops[i]? with
      | none => false
      | some oi => oj.apart ops oi
theorem newB_spec {n m j i : Nat} {oi : Oper} (h : newB ops n m = true) (h1 : n ≤ j) (h2 : j < m) (hi : i < n) (ho : ops[i]? = some oi) :
    (∀ d, dstOf ops j = some d → d ∉ oi.looksAt ops) ∧ (∀ d, dstOf ops j = some d → oi.dst ≠ some d) := by
  have k1 := List.all_eq_true.1 h j (List.mem_range.2 h2)
  simp only [Bool.or_eq_true, decide_eq_true_eq] at k1
  rcases k1 with k1 | k1
  · omega
  · cases hj : ops[j]? with
    | none => simp [hj] at k1
    | some oj =>
      simp only [hj] at k1
      have k2 := List.all_eq_true.1 k1 i (List.mem_range.2 hi)
      simp only [ho] at k2
      obtain ⟨a1, a2, _⟩ := Oper.apart_spec k2
      have e : dstOf ops j = oj.dst := by unfold dstOf; rw [hj]; rfl
      rw [e]
      exact ⟨a1, a2⟩

theorem ov_exec {oi : Oper} (hs : ∀ cs b, oi.op ≠ .select cs b) (a : Act) : ∀ σ : List (Nat × Nat), (∀ p ∈ σ, ∀ d, dstOf ops p.1 = some d → d ∉ oi.looksAt ops) → execOp (ov ops σ a).eval oi = execOp a.eval oi
  | [], _ => rfl
  | p :: σ, h => (execOp_put oi hs _ _ _ (h p (List.mem_cons_self ..))).trans (ov_exec hs a σ fun q hq => h q (List.mem_cons_of_mem _ hq))
theorem ov_wanted {oi : Oper} (a : Act) : ∀ σ : List (Nat × Nat), (∀ p ∈ σ, ∀ d, dstOf ops p.1 = some d → d ∉ oi.looksAt ops) → Region.wanted oi (yielded ops (ov ops σ a).tmps) = Region.wanted oi (yielded ops a.tmps)
  | [], _ => rfl
  | p :: σ, h => (wanted_put oi _ _ _ (h p (List.mem_cons_self ..))).trans (ov_wanted a σ fun q hq => h q (List.mem_cons_of_mem _ hq))
theorem ov_put {x : Option Tmp} (a : Act) (v : Value) : ∀ σ : List (Nat × Nat), (∀ p ∈ σ, ∀ d, dstOf ops p.1 = some d → x ≠ some d) → (ov ops σ a).put x v = ov ops σ (a.put x v)
  | [], _ => rfl
  | p :: σ, h => by
    show ((ov ops σ a).put _ _).put x v = (ov ops σ (a.put x v)).put _ _
    rw [Act.put_comm _ _ _ (h p (List.mem_cons_self ..)), ov_put a v σ fun q hq => h q (List.mem_cons_of_mem _ hq)]

theorem wp_of_calm {o : Oper} {a : Act} {w : World} {v : Value} {K : Act → World → Prop} {Q : Exit → Act → World → Prop} (h : o.quietAt P a (fun w2 => Below w.heap.size w w2) w v)
    (hk : ∀ w2, Below w.heap.size w w2 → K (a.put o.dst v) w2) : o.wp P a w K Q := by
  unfold Oper.quietAt at h
  unfold Oper.wp
  generalize (execOp a.eval o).run P w = r at *
  cases r with
  | ok x w' =>
    cases x <;> simp only [Oper.quietUpon] at h <;> simp only [Oper.upon]
    case value u => obtain ⟨rfl, rfl⟩ := h; exact hk _ (Below.refl _ _)
    case skip => obtain ⟨rfl, rfl⟩ := h; exact hk _ (Below.refl _ _)
    case enter f args =>
      obtain ⟨rfl, hc⟩ := h
      exact hc.mono fun e w2 hh => by obtain ⟨rfl, hb⟩ := hh; exact hk w2 hb
  | halt x w' => simp only [Oper.quietUpon] at h

/-! ### how many are left -/
def left (ls : Array Bool) : Nat → Nat
  | 0 => 0
  | m + 1 => left ls m + if ls.getD m false = true then 0 else 1
theorem left_none {ls : Array Bool} : ∀ {m : Nat}, left ls m = 0 → ∀ i, i < m → ls.getD i false = true
  | m + 1, h, i, hi => by
    unfold left at h
    by_cases him : i = m
    · subst him
      by_cases hh : ls.getD i false = true
      · exact hh
      · rw [if_neg hh] at h; omega
    · exact left_none (m := m) (by omega) i (by omega)
theorem left_some {ls : Array Bool} : ∀ {m : Nat}, left ls m ≠ 0 → ∃ i, i < m ∧ ls.getD i false = false
  | 0, h => absurd rfl h
  | m + 1, h => by
    by_cases hh : ls.getD m false = true
    · unfold left at h
      rw [if_pos hh] at h
      obtain ⟨i, h1, h2⟩ := left_some (m := m) (by omega)
      exact ⟨i, by omega, h2⟩
    · exact ⟨m, by omega, by simpa using hh⟩
theorem left_same {ls : Array Bool} {i : Nat} : ∀ {m : Nat}, m ≤ i → left (ls.setIfInBounds i true) m = left ls m
  | 0, _ => rfl
  | m + 1, h => by unfold left; rw [left_same (m := m) (by omega), getD_set_ne false (by omega)]
theorem left_set {ls : Array Bool} {i : Nat} (hs : i < ls.size) (hu : ls.getD i false = false) : ∀ {m : Nat}, i < m → left (ls.setIfInBounds i true) m + 1 = left ls m
  | m + 1, h => by
    unfold left
    by_cases him : i = m
    · subst him
      rw [left_same (Nat.le_refl _), if_pos (by simp [hs]), if_neg (by rw [hu]; simp)]
    · have := left_set hs hu (m := m) (by omega)
      rw [getD_set_ne false him]
      omega

/-- the first m are listed, no other -/
def upto (ops : Array Oper) (m : Nat) : Array Bool := ((List.range ops.size).map fun i => decide (i < m)).toArray
theorem getD_set_self {ls : Array Bool} {i : Nat} (h : i < ls.size) (d : Bool) : (ls.setIfInBounds i true).getD i d = true := by simp [h]
theorem upto_of {ls : Array Bool} {m : Nat} (hs : ls.size = ops.size) (h1 : ∀ i, i < m → ls.getD i false = true) (h2 : ∀ i, m ≤ i → ls.getD i false = false) : ls = upto ops m := by
  apply Array.ext
  · simp [upto, hs]
  · intro i hi hi'
    have e : ls.getD i false = ls[i] := by simp [hi]
    rw [← e]
    by_cases hm : i < m
    · rw [h1 i hm]; simp [upto, hm]
    · rw [h2 i (by omega)]; simp [upto, hm]

/-- all that a state is held to -/
structure Sok (ops : Array Oper) (W0 : World) (Z : Nat → Obj) (n m : Nat) (ls : Array Bool) (σ : List (Nat × Nat)) (w : World) : Prop where
  size : ls.size = ops.size
  tail : ∀ t, m ≤ t → ls.getD t false = false
  some : ∀ p ∈ σ, n ≤ p.1 ∧ p.1 < m ∧ ls.getD p.1 false = true ∧ W0.heap.size ≤ p.2 ∧ p.2 < w.heap.size ∧ w.heap[p.2]? = some (Z p.1)
  all : ∀ j, n ≤ j → j < m → ls.getD j false = true → ∃ D, (j, D) ∈ σ
  keys : (σ.map (·.1)).Nodup
  apart : (σ.map (·.2)).Nodup
  bel : Below W0.heap.size W0 w
theorem Sok.grow {Z : Nat → Obj} {n m : Nat} {ls : Array Bool} {σ : List (Nat × Nat)} {w w2 : World} (h : Sok ops W0 Z n m ls σ w) (hb : Below w.heap.size w w2) : Sok ops W0 Z n m ls σ w2 :=
  ⟨h.size, h.tail, fun p hp => by
    obtain ⟨a1, a2, a3, a4, a5, a6⟩ := h.some p hp
    exact ⟨a1, a2, a3, a4, Nat.lt_of_lt_of_le a5 hb.size, (hb.block p.2 a5).trans a6⟩, h.all, h.keys, h.apart, below_class h.bel hb⟩
theorem Sok.head {Z : Nat → Obj} {n m : Nat} {ls : Array Bool} {σ : List (Nat × Nat)} {w : World} (h : Sok ops W0 Z n m ls σ w) {i : Nat} (hi : i < n) (hnm : n ≤ m) : Sok ops W0 Z n m (ls.setIfInBounds i true) σ w :=
  ⟨by simp [h.size], fun t ht => by rw [getD_set_ne false (by omega)]; exact h.tail t ht, fun p hp => by
    obtain ⟨a1, a2, a3, a4, a5, a6⟩ := h.some p hp
    exact ⟨a1, a2, getD_set_true a3, a4, a5, a6⟩, fun j h1 h2 h3 => h.all j h1 h2 (by rwa [getD_set_ne false (by omega)] at h3), h.keys, h.apart, h.bel⟩
theorem Sok.made {Z : Nat → Obj} {n m : Nat} {ls : Array Bool} {σ : List (Nat × Nat)} {w : World} (h : Sok ops W0 Z n m ls σ w) {i : Nat} (h1 : n ≤ i) (h2 : i < m) (hs : i < ls.size) (hu : ls.getD i false = false) :
    Sok ops W0 Z n m (ls.setIfInBounds i true) ((i, w.heap.size) :: σ) (w.alloc (Z i)) := by
  refine ⟨by simp [h.size], fun t ht => by rw [getD_set_ne false (by omega)]; exact h.tail t ht, fun p hp => ?_, fun j j1 j2 j3 => ?_, ?_, ?_, h.bel.alloc h.bel.size _⟩
  · rcases List.mem_cons.1 hp with rfl | hp
    · exact ⟨h1, h2, getD_set_self hs false, h.bel.size, by simp, World.alloc_heap_new w _⟩
    · obtain ⟨a1, a2, a3, a4, a5, a6⟩ := h.some p hp
      exact ⟨a1, a2, getD_set_true a3, a4, by simp; omega, (Below.heap_alloc w _ p.2 a5).trans a6⟩
  · by_cases hji : i = j
    · subst hji; exact ⟨_, List.mem_cons_self ..⟩
    · rw [getD_set_ne false hji] at j3
      obtain ⟨D, hD⟩ := h.all j j1 j2 j3
      exact ⟨D, List.mem_cons_of_mem _ hD⟩
  · simp only [List.map_cons, List.nodup_cons]
    refine ⟨fun hm => ?_, h.keys⟩
    obtain ⟨p, hp, he⟩ := List.mem_map.1 hm
    have := (h.some p hp).2.2.1
    rw [he, hu] at this
    cases this
  · simp only [List.map_cons, List.nodup_cons]
    refine ⟨fun hm => ?_, h.apart⟩
    obtain ⟨p, hp, he⟩ := List.mem_map.1 hm
    have := (h.some p hp).2.2.2.2.1
    omega

/-- whatever order is drawn -/
theorem any_new {Q : Act → Prop} {Q' : Exit → Act → World → Prop} {Z : Nat → Obj} {n m g : Nat} (hsel : Region.noSelect ops = true) (hB : headB md ops n = true) (hN : newB ops n m = true) (hnm : n ≤ m) (hmo : m < ops.size)
    (hnew : ∀ j, n ≤ j → j < m → ∃ o, IsNew P ops j o (Z j)) (hsink : Region.sinkB md ops m = true) (hchain : Region.chainB md ops m = true)
    (hend : ∀ a σ w, Sok ops W0 Z n m (upto ops m) σ w → Q a → wpAny P md ops Q' g (upto ops m) (ov ops σ a) w) :
    ∀ (c : Nat) (ls : Array Bool) (done : Nat → Bool) (a : Act) (σ : List (Nat × Nat)) (w : World) (f : Nat), left ls m = c → (∀ i, i < n → ls.getD i false = done i) → HeadInv md ops m ls → Sok ops W0 Z n m ls σ w →
      AnyF P md ops W0 n Q f done a → wpAny P md ops Q' (c + g) ls (ov ops σ a) w := by
  intro c
  induction c with
  | zero =>
    intro ls done a σ w f hc hd _ hs hF
    have hall := left_none hc
    obtain rfl := upto_of hs.size hall hs.tail
    cases f with
    | zero => rw [Nat.zero_add]; exact hend a σ w hs hF.2
    | succ f =>
      obtain ⟨i, hi, hf, _⟩ := hF.1
      rw [← hd i hi, hall i (by omega)] at hf
      cases hf
  | succ c ih =>
    intro ls done a σ w f hc hd inv hs hF
    obtain ⟨i0, hi0, hu0⟩ := left_some (ls := ls) (m := m) (by omega)
    have hsz0 : i0 < ls.size := by rw [hs.size]; omega
    have notail : ∀ i ∈ Region.ready md ops ls, i < m := fun i hi => by
      rcases Nat.lt_or_ge i m with h | h
      · exact h
      · exact absurd hi (tail_waits hsink hchain hmo inv _ i0 rfl hi0 (getD_in hsz0 hu0) i h)
    rw [show c + 1 + g = (c + g) + 1 by omega]
    refine ⟨fun hnil => ?_, fun i hi => ?_⟩
    · exfalso
      rcases Nat.lt_or_ge i0 n with h | h
      · cases f with
        | zero =>
          have := hF.1 i0 h
          rw [← hd i0 h, hu0] at this
          cases this
        | succ f =>
          obtain ⟨i, hi, hf, o, ho, hall⟩ := hF.1
          have : i ∈ Region.ready md ops ls := mem_ready.2 ⟨getD_in (by rw [hs.size]; exact (Array.getElem?_eq_some_iff.1 ho).1) (by rw [hd i hi]; exact hf), o, ho, fun e he hb => by
            rw [hd e.on (by have := headB_on hB hi ho e he hb; omega)]; exact hall e he hb⟩
          rw [hnil] at this
          cases this
      · obtain ⟨o, ho⟩ := hnew i0 h hi0
        have : i0 ∈ Region.ready md ops ls := mem_ready.2 ⟨getD_in hsz0 hu0, o, ho.here, fun e he => by rw [ho.after] at he; simp at he⟩
        rw [hnil] at this
        cases this
    · have him := notail i hi
      obtain ⟨hun, o, ho, hall⟩ := mem_ready.1 hi
      have hu := getD_both hun
      have hsz : i < ls.size := by rw [hs.size]; omega
      have hc' : left (ls.setIfInBounds i true) m = c := by have := left_set hsz hu him; omega
      rcases Nat.lt_or_ge i n with hin | hin
      · have hr : rdy md ops n done i := ⟨hin, by rw [← hd i hin]; exact hu, o, ho, fun e he hb => by
          rw [← hd e.on (by have := headB_on hB hin ho e he hb; omega)]; exact hall e he hb⟩
        cases f with
        | zero =>
          have := hF.1 i hin
          rw [hr.2.1] at this
          cases this
        | succ f =>
          obtain ⟨v, hy, hn⟩ := hF.2 i o ho hr
          have hap : ∀ p ∈ σ, (∀ d, dstOf ops p.1 = some d → d ∉ o.looksAt ops) ∧ (∀ d, dstOf ops p.1 = some d → o.dst ≠ some d) := fun p hp => newB_spec hN (hs.some p hp).1 (hs.some p hp).2.1 hin ho
          have hd' : ∀ k, k < n → (ls.setIfInBounds i true).getD k false = more done i k := fun k hk => by
            by_cases hki : k = i
            · subst hki; rw [getD_set_self hsz]; unfold more; rw [if_pos rfl]
            · rw [getD_set_ne false (Ne.symm hki), more_ne hki]; exact hd k hk
          have go : ∀ w2, Below w.heap.size w w2 → wpAny P md ops Q' (c + g) (ls.setIfInBounds i true) ((ov ops σ a).put o.dst v) w2 := fun w2 hb => by
            rw [ov_put a v σ fun p hp => (hap p hp).2]
            exact ih _ _ _ σ w2 f hc' hd' (inv.set hi him) ((hs.head hin hnm).grow hb) hn
          unfold wpOp
          rw [ho]
          simp only [ov_wanted a σ fun p hp => (hap p hp).1]
          rcases hy with ⟨hw, hq⟩ | ⟨hw, rfl⟩
          · rw [if_pos hw]
            refine .inl (wp_of_calm (v := v) ?_ go)
            have := hq w hs.bel
            unfold Oper.quietAt at *
            rwa [ov_exec (Region.noSelect_spec hsel i o · · ho) a σ fun p hp => (hap p hp).1]
          · rw [if_neg (by rw [hw]; simp)]
            exact go w (Below.refl _ _)
      · obtain ⟨o', ho'⟩ := hnew i hin him
        obtain rfl : o' = o := Option.some.inj (ho'.here.symm.trans ho)
        unfold wpOp
        rw [ho]
        simp only
        rw [if_pos (ho'.wants _)]
        refine .inl ?_
        unfold Oper.wp
        rw [ho'.runs]
        simp only [Oper.upon]
        have e : dstOf ops i = o'.dst := by unfold dstOf; rw [ho]; rfl
        have := ih (ls.setIfInBounds i true) done a ((i, w.heap.size) :: σ) (w.alloc (Z i)) f hc' (fun k hk => by rw [getD_set_ne false (by omega)]; exact hd k hk) (inv.set hi him) (hs.made hin him hsz hu) hF
        unfold ov at this
        rw [e] at this
        exact this

/-- the region's shape, as one Bool -/
def shapeB (md : Region.Mode) (ops : Array Oper) (n m : Nat) : Bool :=
  Region.noSelect ops && headB md ops n && newB ops n m && decide (n ≤ m) && decide (m < ops.size) && Region.sinkB md ops m && Region.chainB md ops m && Region.seqB md ops (ops.size - m) m (upto ops m)
end

theorem wp_region_new {P : Program} {id : Nat} {Q : Exit → Act → World → Prop} {a : Act} {w : World} {l : List Oper} (n m : Nat) (Z : Nat → Obj) (hm : P.follows .mixedOrders = true) (hB : shapeB .any l.toArray n m = true)
    (hnew : ∀ j, n ≤ j → j < m → ∃ o, IsNew P l.toArray j o (Z j))
    (h : wpCalm P l.toArray w.drew (fun a' => ∀ σ w', Sok l.toArray w.drew Z n m (upto l.toArray m) σ w' → wpList P l.toArray Q (l.drop m) (ov l.toArray σ a') w') (l.take n) a) :
    (Code.region id l.toArray true).wp P Q a w := by
  simp only [shapeB, Bool.and_eq_true, decide_eq_true_eq] at hB
  obtain ⟨⟨⟨⟨⟨⟨⟨hsel, hhead⟩, hnewB⟩, hnm⟩, hmo⟩, hsink⟩, hchain⟩, hseq⟩ := hB
  have hmo' : m < l.length := by simpa using hmo
  have htl : (l.take n).length = n := by simp; omega
  have hdl : (l.drop m).length = l.toArray.size - m := by simp
  have inv0 : HeadInv .any l.toArray m (Array.replicate l.toArray.size false) :=
    ⟨by simp, fun j oj _ hl => (by rw [getD_replicate_false] at hl; cases hl), fun t _ ht => getD_in (by simpa using ht) (getD_replicate_false _ _)⟩
  have H := anyF_lex (md := .any) (n := n) hsel hhead (l.take n) 0 a (fun j hj => by
    have hj' : j < n := by rw [htl] at hj; exact hj
    simp [hj']) (by simpa using htl) h
  rw [htl] at H
  have hl0 : left (Array.replicate l.toArray.size false) m = m := by
    have : ∀ k, left (Array.replicate l.toArray.size false) k = k := fun k => by
      induction k with
      | zero => rfl
      | succ k ih => unfold left; rw [ih, getD_replicate_false]; simp
    exact this m
  refine wp_region_any hm ?_
  have := any_new (md := .any) (W0 := w.drew) (Q' := Q) (g := l.toArray.size - m) hsel hhead hnewB hnm hmo hnew hsink hchain (fun a' σ w' hs hQ => by
    have := wpAny_of_seq (md := .any) (Q' := Q) (l.drop m) m (upto l.toArray m) (ov l.toArray σ a') w' (fun j => by simp [List.getElem?_drop]) (by rw [hdl]; exact hseq) (hQ σ w' hs)
    rwa [hdl] at this) m (Array.replicate l.toArray.size false) (fun j => decide (j < 0)) a [] w.drew n hl0 (fun i _ => by rw [getD_replicate_false]; simp) inv0
    ⟨by simp, fun t _ => getD_replicate_false _ _, fun p hp => (by cases hp), fun j _ _ hj => (by rw [getD_replicate_false] at hj; cases hj), List.nodup_nil, List.nodup_nil, Below.refl _ _⟩ H
  rw [show m + (l.toArray.size - m) = l.toArray.size by omega] at this
  exact this

theorem upto_get {ops : Array Oper} {m i : Nat} (h1 : i < m) (h2 : i < ops.size) : (upto ops m).getD i false = true := by
  simp [upto, List.getElem?_range h2, h1]
theorem shapeB_size {ops : Array Oper} {n m : Nat} (h : shapeB .any ops n m = true) : m ≤ ops.size := by
  simp only [shapeB, Bool.and_eq_true, decide_eq_true_eq] at h
  exact Nat.le_of_lt h.1.1.1.2

/-- one new variable -/
theorem wp_region_new1 {P : Program} {id : Nat} {Q : Exit → Act → World → Prop} {a : Act} {w : World} {l : List Oper} (n : Nat) (d : Tmp) (Z : Obj) (hm : P.follows .mixedOrders = true) (hB : shapeB .any l.toArray n (n + 1) = true)
    (hd : dstOf l.toArray n = some d) (hnew : ∃ o, IsNew P l.toArray n o Z)
    (h : wpCalm P l.toArray w.drew (fun a' => ∀ D w', Below w.drew.heap.size w.drew w' → w.heap.size ≤ D → w'.heap[D]? = some Z → wpList P l.toArray Q (l.drop (n + 1)) (a'.put (some d) (.pointer (some ⟨D, 0, none⟩))) w') (l.take n) a) :
    (Code.region id l.toArray true).wp P Q a w := by
  refine wp_region_new n (n + 1) (fun _ => Z) hm hB (fun j h1 h2 => ?_) ?_
  · obtain rfl : j = n := by omega
    exact hnew
  refine wpCalm_mono (fun a' ha σ w' hs => ?_) _ a h
  obtain ⟨D, hD⟩ := hs.all n (Nat.le_refl _) (by omega) (upto_get (by omega) (shapeB_size hB))
  match σ, hs, hD with
  | [p], hs, hD =>
    obtain rfl : (n, D) = p := by simpa using hD
    obtain ⟨_, _, _, b4, _, b6⟩ := hs.some _ (List.mem_cons_self ..)
    show wpList P l.toArray Q _ (a'.put (dstOf l.toArray n) _) w'
    rw [hd]
    exact ha D w' hs.bel b4 b6
  | p :: q :: r, hs, _ =>
    exfalso
    have hk := hs.keys
    have h1 := hs.some p (by simp)
    have h2 := hs.some q (by simp)
    simp only [List.map_cons, List.nodup_cons, List.mem_cons, not_or] at hk
    omega

/-- two new variables -/
theorem wp_region_new2 {P : Program} {id : Nat} {Q : Exit → Act → World → Prop} {a : Act} {w : World} {l : List Oper} (n : Nat) (d e : Tmp) (Z Z' : Obj) (hm : P.follows .mixedOrders = true) (hB : shapeB .any l.toArray n (n + 2) = true)
    (hnew : ∃ o, IsNew P l.toArray n o Z) (hnew' : ∃ o, IsNew P l.toArray (n + 1) o Z') (hd : dstOf l.toArray n = some d) (he : dstOf l.toArray (n + 1) = some e) (hde : d ≠ e)
    (h : wpCalm P l.toArray w.drew (fun a' => ∀ D E w', Below w.drew.heap.size w.drew w' → w.heap.size ≤ D → w.heap.size ≤ E → D ≠ E → w'.heap[D]? = some Z → w'.heap[E]? = some Z' →
      wpList P l.toArray Q (l.drop (n + 2)) ((a'.put (some d) (.pointer (some ⟨D, 0, none⟩))).put (some e) (.pointer (some ⟨E, 0, none⟩))) w') (l.take n) a) :
    (Code.region id l.toArray true).wp P Q a w := by
  refine wp_region_new n (n + 2) (fun j => if j = n then Z else Z') hm hB (fun j h1 h2 => ?_) ?_
  · by_cases hj : j = n
    · subst hj; rw [if_pos rfl]; exact hnew
    · obtain rfl : j = n + 1 := by omega
      rw [if_neg hj]; exact hnew'
  refine wpCalm_mono (fun a' ha σ w' hs => ?_) _ a h
  obtain ⟨D, hD⟩ := hs.all n (Nat.le_refl _) (by omega) (upto_get (by omega) (Nat.le_trans (by omega) (shapeB_size hB)))
  obtain ⟨E, hE⟩ := hs.all (n + 1) (by omega) (by omega) (upto_get (by omega) (shapeB_size hB))
  have sD := hs.some _ hD
  have sE := hs.some _ hE
  simp only [if_pos, show ¬ (n + 1 = n) by omega, if_false] at sD sE
  have go : D ≠ E → wpList P l.toArray Q (l.drop (n + 2)) ((a'.put (some d) (.pointer (some ⟨D, 0, none⟩))).put (some e) (.pointer (some ⟨E, 0, none⟩))) w' := fun hne => ha D E w' hs.bel sD.2.2.2.1 sE.2.2.2.1 hne sD.2.2.2.2.2 sE.2.2.2.2.2
  clear sD sE
  match σ, hs, hD, hE with
  | [p], _, hD, hE =>
    exfalso
    have e1 : (n, D) = p := by simpa using hD
    have e2 : (n + 1, E) = p := by simpa using hE
    rw [← e2] at e1
    have := congrArg Prod.fst e1
    simp at this
  | [p, q], hs, hD, hE =>
    have hap := hs.apart
    simp only [List.map_cons, List.map_nil, List.nodup_cons, List.mem_cons, List.not_mem_nil, or_false] at hap hD hE
    rcases hD with rfl | rfl
    · rcases hE with hE | rfl
      · exact absurd (congrArg Prod.fst hE) (by simp)
      · show wpList P l.toArray Q _ ((a'.put (dstOf l.toArray (n + 1)) _).put (dstOf l.toArray n) _) w'
        rw [hd, he, ← Act.put_comm a' _ _ (fun k hk h => hde (Option.some.inj (hk.trans h.symm)))]
        exact go hap.1
    · rcases hE with rfl | hE
      · show wpList P l.toArray Q _ ((a'.put (dstOf l.toArray n) _).put (dstOf l.toArray (n + 1)) _) w'
        rw [hd, he]
        exact go fun h => hap.1 h.symm
      · exact absurd (congrArg Prod.fst hE) (by simp)
  | p :: q :: r :: t, hs, _, _ =>
    exfalso
    have hk := hs.keys
    have h1 := hs.some p (by simp)
    have h2 := hs.some q (by simp)
    have h3 := hs.some r (by simp)
    simp only [List.map_cons, List.nodup_cons, List.mem_cons, not_or] at hk
    omega

end Go.Proofs.Ytkcppidmbojglaf
