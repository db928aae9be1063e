/- Several texts in one, each with its own head. -/
import Derived.Test.YtdfdkddjkhcgdaiPlE
import Derived.Test.YtdfdkddjkhcgdaiPlS
import Derived.Test.YtdfdkddjkhcgdaiPk0
import Derived.Test.YtdfdkddjkhcgdaiPk1
import Derived.StillTail
import Derived.Deep.Quiet
/- A plan on its way: the last want is taken back; whether a list may end; whether nothing is left. -/
namespace Go.Proofs.Ytdfdkddjkhcgdai
open Go.RowKit

section
variable {W : World} {B b sb lb : Nat} {vw : Value} {vs : List Value} {G : Nat → Prop} {ws : List (Int × Int)} {st : List Bool} {ls : List (List Int)}
theorem shr1_any (m c : Nat) (hc : c ≤ 8) (W : World) : (binOp .shr 3 (.int .i64 (m : Int)) (.int .i64 ((c : Int) + 1))).run Try.prog W = .ok (.int .i64 ((m / 2 ^ (c + 1) : Nat) : Int)) W := by
  have := shr_any m (c + 1) (by omega) W
  rwa [Int.natCast_add] at this
theorem div_zero (m c : Nat) : ((m : Int) / 2 ^ (c + 1) == 0) = (m / 2 ^ (c + 1) == 0) := by
  have h : (m : Int) / 2 ^ (c + 1) = ((m / 2 ^ (c + 1) : Nat) : Int) := by rw [Int.natCast_ediv, Int.natCast_pow]; rfl
  rw [h, Bool.eq_iff_iff]
  simp only [beq_iff_eq]
  omega
end
end Go.Proofs.Ytdfdkddjkhcgdai

/- A new plan on its way; whether a plan may be, as the program tells it. -/
namespace Go.Proofs.Ytdfdkddjkhcgdai
open Go.RowKit

theorem made_one (z : Value) (hz : z.cells = #[z]) (n : Nat) : madeCells z.cells n = (List.replicate n z).toArray := by
  apply Array.ext
  · rw [size_madeCells]; simp
  · intro i h1 h2
    simp only [madeCells, hz, List.getElem_toArray, List.getElem_replicate]
    simp [Nat.mod_one]
theorem info_h {t : TypeId} {v : Value} {a b : Nat} (h : (Try.prog.info? t).map (fun i => (i.zero, i.size, i.bytes)) = some (some v, a, b)) : ∃ i, Try.prog.info? t = some i ∧ i.zero = some v ∧ i.size = a ∧ i.bytes = b := by
  obtain ⟨i, h1, h2⟩ := Option.map_eq_some_iff.1 h
  simp only [Prod.mk.injEq] at h2
  exact ⟨i, h1, h2.1, h2.2.1, h2.2.2⟩
theorem infoHB : (Try.prog.info? 4).map (fun i => (i.zero, i.size, i.bytes)) = some (some (.bool false), 1, 1) := by kernel_rfl
theorem infoHL : (Try.prog.info? 44).map (fun i => (i.zero, i.size, i.bytes)) = some (some (.slice none 0 0), 1, 24) := by kernel_rfl
theorem infoHI : (Try.prog.info? 3).map (fun i => (i.zero, i.size, i.bytes)) = some (some (.int .i64 0), 1, 8) := by kernel_rfl
theorem mkL (n : Nat) (hn : n ≤ 1000) (W : World) : (Instr.makeSlice 40 (.int .i64 (n : Int)) (.int .i64 (n : Int))).run Try.prog W = .ok (.slice (some ⟨W.heap.size, 0, none⟩) n n) (W.alloc (.cells (List.replicate n (Value.slice none 0 0)).toArray 44)) := by
  obtain ⟨i, hi, h1, h2, h3⟩ := info_h infoHL
  have := run_make (P := Try.prog) W 40 44 i _ Try.underlying40 hi h1 .i64 .i64 (n : Int) (n : Int) (by omega) (by omega) (by
    have : (i.bytes : Int) * (n : Int) ≤ 24 * 1000 := Int.mul_le_mul (by omega) (by omega) (by omega) (by omega)
    omega) (by omega)
  rw [this, h2, Int.toNat_natCast, made_one _ rfl, Nat.mul_one]
theorem mkI (n : Nat) (hn : n ≤ 1000) (W : World) : (Instr.makeSlice 44 (.int .i64 (n : Int)) (.int .i64 (n : Int))).run Try.prog W = .ok (.slice (some ⟨W.heap.size, 0, none⟩) n n) (W.alloc (.cells (List.replicate n (Value.int .i64 0)).toArray 3)) := by
  obtain ⟨i, hi, h1, h2, h3⟩ := info_h infoHI
  have := run_make (P := Try.prog) W 44 3 i _ Try.underlying44 hi h1 .i64 .i64 (n : Int) (n : Int) (by omega) (by omega) (by
    have : (i.bytes : Int) * (n : Int) ≤ 24 * 1000 := Int.mul_le_mul (by omega) (by omega) (by omega) (by omega)
    omega) (by omega)
  rw [this, h2, Int.toNat_natCast, made_one _ rfl, Nat.mul_one]
theorem bv_rep (n : Nat) : bv (List.replicate n false) = List.replicate n (Value.bool false) := by unfold bv; rw [List.map_replicate]

theorem heap3 (w : World) (o1 o2 o3 : Obj) : (((w.alloc o1).alloc o2).alloc o3).heap[w.heap.size]? = some o1 ∧ (((w.alloc o1).alloc o2).alloc o3).heap[w.heap.size + 1]? = some o2 ∧ (((w.alloc o1).alloc o2).alloc o3).heap[w.heap.size + 1 + 1]? = some o3 := by
  have h1 := World.alloc_heap_new w o1
  have h2 := World.alloc_heap_new (w.alloc o1) o2
  have h3 := World.alloc_heap_new ((w.alloc o1).alloc o2) o3
  rw [World.size_alloc] at h2
  rw [World.size_alloc, World.size_alloc] at h3
  exact ⟨(Below.heap_alloc _ _ _ (by simp; omega)).trans ((Below.heap_alloc _ _ _ (by simp)).trans h1), (Below.heap_alloc _ _ _ (by simp)).trans h2, h3⟩

theorem wok_iff' {fl : Int} {n : Nat} {x : Int × Int} : wok fl n x = true ↔ 0 ≤ x.1 ∧ x.1 < fl ∧ 0 < x.2 ∧ x.2 < 2 ^ n := by unfold wok; simp [and_assoc]
/-- the masks of a right snapshot's wants -/
def msk (s : Sn) : List Nat := s.ws.map fun y => y.2.toNat
/-- what is known of a right snapshot -/
structure Rs (s : Sn) (n : Nat) : Prop where
  ca : s.st.ca = (n : Int)
  n1 : 1 ≤ n
  n8 : n ≤ 8
  cl : s.cs.length = n
  wl : s.ws.length ≤ 128
  mm : Mk s.ws (msk s)
  lt : ∀ m ∈ msk s, m < 2 ^ n
theorem rgt_rs {s : Sn} (h : rgt s = true) : ∃ n, Rs s n := by
  unfold rgt at h
  simp only [Bool.and_eq_true, decide_eq_true_eq] at h
  obtain ⟨⟨⟨⟨h1, h2⟩, h3⟩, h4⟩, h5⟩ := h
  obtain ⟨n, hn8, hn1, hca⟩ := ca_nat ((rightB_iff _).1 h1)
  rw [hca, Int.toNat_natCast, List.all_eq_true] at h5
  have hlt : ∀ y ∈ s.ws, 0 < y.2 ∧ y.2 < 2 ^ n := fun y hy => by
    have := wok_iff'.1 (h5 y hy)
    exact ⟨this.2.2.1, this.2.2.2⟩
  refine ⟨n, hca, hn1, hn8, by omega, h3, ⟨by unfold msk; simp, fun i y hy => ?_⟩, fun m hm => ?_⟩
  · have h6 := hlt y (List.mem_of_getElem? hy)
    exact ⟨y.2.toNat, by unfold msk; rw [List.getElem?_map, hy]; rfl, by omega⟩
  · unfold msk at hm
    obtain ⟨y, hy, rfl⟩ := List.mem_map.1 hm
    have h6 := hlt y hy
    have h7 : ((2 ^ n : Nat) : Int) = 2 ^ n := by rw [Int.natCast_pow]; rfl
    omega

end Go.Proofs.Ytdfdkddjkhcgdai

/- Steps of regions that only read. -/
namespace Go.Proofs.Ytdfdkddjkhcgdai
open Go.RowKit

theorem quiet_val {P : Program} {C : World → Prop} {K : Act → Prop} {o : Oper} {a : Act} (v : Value) (hrun : ∀ w, C w → (execOp a.eval o).run P w = .ok (.value v) w) (h : K (a.put o.dst v)) : o.quiet P a C K :=
  ⟨v, fun w hw => by unfold Oper.quietAt; rw [hrun w hw]; exact ⟨rfl, rfl⟩, h⟩
theorem quiet_load3 {C : World → Prop} {K : Act → Prop} {o : Oper} {a : Act} (x : Operand) (b k : Nat) {v : Value} (ho : o.op = .load 3 x) (hx : a.eval x = .pointer (some ⟨b, k, none⟩)) (hr : ∀ w, C w → w.cell? ⟨b, k, none⟩ = some v)
    (h : K (a.put o.dst v)) : o.quiet Try.prog a C K :=
  quiet_val _ (fun w hw => by unfold execOp; simp only [ho, hx, Sem.run_bind, Sem.run_pure, Result.andThen_ok, load3 w b k v (hr w hw)]) h
theorem quiet_load27 {C : World → Prop} {K : Act → Prop} {o : Oper} {a : Act} (x : Operand) (b : Nat) (s : St) (vc vw : Value) (ho : o.op = .load 36 x) (hx : a.eval x = .pointer (some ⟨b, 0, none⟩)) (hr : ∀ w, C w → NB w b s vc vw)
    (h : K (a.put o.dst (.agg (nv s vc vw).toArray))) : o.quiet Try.prog a C K :=
  quiet_val _ (fun w hw => by unfold execOp; simp only [ho, hx, Sem.run_bind, Sem.run_pure, Result.andThen_ok, load27 w b s vc vw (hr w hw).range]) h

end Go.Proofs.Ytdfdkddjkhcgdai

/- When a want is served, as the document tells it. -/
namespace Go.Proofs.Ytdfdkddjkhcgdai
open Go.RowKit

theorem take_snoc {α : Type} {l : List α} {j : Nat} {y : α} (h : l[j]? = some y) : l.take (j + 1) = l.take j ++ [y] := by rw [List.take_add_one, h]; rfl
/-- a snapshot that is right has routes -/
theorem rgt_rz {s : Sn} (h : rgt s = true) : RM.Rz s.st s.ws s.cs := by
  unfold rgt at h
  simp only [Bool.and_eq_true, decide_eq_true_eq] at h
  obtain ⟨⟨⟨⟨h1, _⟩, _⟩, h4⟩, h5⟩ := h
  rw [List.all_eq_true] at h4 h5
  refine ⟨(rightB_iff _).1 h1, fun r hr => ?_, fun y hy => ?_⟩
  · have := h4 r hr
    unfold cok at this
    simp only [Bool.and_eq_true, decide_eq_true_eq] at this
    exact RM.bg_ok this.1.1.1 this.1.1.2 this.1.2
  · have := wok_iff'.1 (h5 y hy)
    exact ⟨this.1, this.2.1⟩
theorem rgt_after {s : Sn} (h : rgt s = true) : ∀ r ∈ s.cs, r.2 ≤ 1000000 := fun r hr => by
  unfold rgt at h
  simp only [Bool.and_eq_true, decide_eq_true_eq] at h
  obtain ⟨⟨⟨⟨_, _⟩, _⟩, h4⟩, _⟩ := h
  rw [List.all_eq_true] at h4
  have := h4 r hr
  unfold cok at this
  simp only [Bool.and_eq_true, decide_eq_true_eq] at this
  exact this.2

end Go.Proofs.Ytdfdkddjkhcgdai

/-
  A REGION THAT DRAWS ITS ORDER, in three parts: its head reads and calls (the callees may make memory, and leave all that was there); then new variables are made; then they are stored into.
  The making of a variable waits for nothing: it may come up between any two of the head's operations, so that its block's number hangs on the order. Here: ONE walk of the head, in lexical order, serves every order; the new variables' blocks are letters.
  No program is named here.
-/
namespace Go.Proofs.Ytdfdkddjkhcgdai
open Go.RowKit

section
variable {P : Program} {ops : Array Oper} {md : Region.Mode} {W0 : World}

/-- in this state, in every world that has grown out of W0, the operation leaves v, and a world that has grown out of the one that it got -/
def Calm (P : Program) (ops : Array Oper) (W0 : World) (o : Oper) (v : Value) (a : Act) : Prop :=
  (Region.wanted o (yielded ops a.tmps) = true ∧ ∀ w, Below W0.heap.size W0 w → o.quietAt P a (fun w2 => Below w.heap.size w w2) w v) ∨
  (Region.wanted o (yielded ops a.tmps) = false ∧ v = undef)
theorem Calm.same {o : Oper} {v : Value} {a a' : Act} (h : Calm P ops W0 o v a) (he : execOp a'.eval o = execOp a.eval o) (hw : Region.wanted o (yielded ops a'.tmps) = Region.wanted o (yielded ops a.tmps)) : Calm P ops W0 o v a' := by
  unfold Calm Oper.quietAt at *
  rw [he, hw]
  exact h

/-- one operation of the head -/
def Oper.calm (P : Program) (W0 : World) (o : Oper) (a : Act) (K : Act → Prop) : Prop :=
  ∃ v, (∀ w, Below W0.heap.size W0 w → o.quietAt P a (fun w2 => Below w.heap.size w w2) w v) ∧ K (a.put o.dst v)
/-- the walk of the head, in lexical order -/
def wpCalm (P : Program) (ops : Array Oper) (W0 : World) (Q : Act → Prop) : List Oper → Act → Prop
  | [], a => Q a
  | o :: rest, a => if Region.wanted o (yielded ops a.tmps) then Oper.calm P W0 o a (wpCalm P ops W0 Q rest) else wpCalm P ops W0 Q rest (a.put o.dst undef)
theorem wpCalm_nil {Q : Act → Prop} {a : Act} (h : Q a) : wpCalm P ops W0 Q [] a := h
theorem wpCalm_mono {Q Q' : Act → Prop} (hQ : ∀ a, Q a → Q' a) : ∀ (l : List Oper) (a : Act), wpCalm P ops W0 Q l a → wpCalm P ops W0 Q' l a
  | [], a, h => hQ a h
  | o :: l, a, h => by
    unfold wpCalm at *
    split
    · rename_i hw
      rw [if_pos hw] at h
      obtain ⟨v, h1, h2⟩ := h
      exact ⟨v, h1, wpCalm_mono hQ l _ h2⟩
    · rename_i hw
      rw [if_neg hw] at h
      exact wpCalm_mono hQ l _ h
theorem wpCalm_cons {Q : Act → Prop} {a : Act} {o : Oper} {rest : List Oper} (h : wpCalm P ops W0 Q (o :: rest) a) : ∃ v, Calm P ops W0 o v a ∧ wpCalm P ops W0 Q rest (a.put o.dst v) := by
  unfold wpCalm at h
  by_cases hw : Region.wanted o (yielded ops a.tmps) = true
  · rw [if_pos hw] at h
    obtain ⟨v, h1, h2⟩ := h
    exact ⟨v, .inl ⟨hw, h1⟩, h2⟩
  · rw [if_neg hw] at h
    exact ⟨undef, .inr ⟨by simpa using hw, rfl⟩, h⟩

/-! ### the orders of the head -/
/-- what may come up next, of the first n -/
def rdy (md : Region.Mode) (ops : Array Oper) (n : Nat) (done : Nat → Bool) (i : Nat) : Prop :=
  i < n ∧ done i = false ∧ ∃ o, ops[i]? = some o ∧ ∀ e ∈ o.after, Region.binds md e = true → done e.on = true
/-- one more is done -/
def more (done : Nat → Bool) (i : Nat) : Nat → Bool := fun j => if j = i then true else done j
theorem more_ne {done : Nat → Bool} {i j : Nat} (h : j ≠ i) : more done i j = done j := if_neg h
theorem more_true {done : Nat → Bool} {i j : Nat} (h : done j = true) : more done i j = true := by unfold more; split <;> first | rfl | exact h
theorem more_comm (done : Nat → Bool) (i j : Nat) : more (more done i) j = more (more done j) i := by
  funext k; unfold more; split <;> split <;> rfl
theorem rdy_more {n : Nat} {done : Nat → Bool} {i j : Nat} (h : rdy md ops n done j) (hne : j ≠ i) : rdy md ops n (more done i) j := by
  obtain ⟨h1, h2, o, ho, hall⟩ := h
  exact ⟨h1, by rw [more_ne hne]; exact h2, o, ho, fun e he hb => more_true (hall e he hb)⟩

/-- whatever order the head takes -/
def AnyF (P : Program) (md : Region.Mode) (ops : Array Oper) (W0 : World) (n : Nat) (Q : Act → Prop) : Nat → (Nat → Bool) → Act → Prop
  | 0, done, a => (∀ i, i < n → done i = true) ∧ Q a
  | f + 1, done, a => (∃ i, rdy md ops n done i) ∧ ∀ i o, ops[i]? = some o → rdy md ops n done i → ∃ v, Calm P ops W0 o v a ∧ AnyF P md ops W0 n Q f (more done i) (a.put o.dst v)

theorem anyF_first {n : Nat} {Q : Act → Prop} {i : Nat} {oi : Oper} {v : Value} (hi : ops[i]? = some oi) (hsel : ∀ (j : Nat) (o : Oper) cs b, ops[j]? = some o → o.op ≠ .select cs b) :
    ∀ (f : Nat) (done : Nat → Bool) (a : Act),
      (∀ j oj, ops[j]? = some oj → j < n → j ≠ i → done j = false → (∀ e ∈ oj.after, Region.binds md e = true → e.on ≠ i) → oi.apart ops oj = true) →
      rdy md ops n done i → Calm P ops W0 oi v a → AnyF P md ops W0 n Q f (more done i) (a.put oi.dst v) → AnyF P md ops W0 n Q (f + 1) done a := by
  intro f
  induction f with
  | zero =>
    intro done a _ hr hy H
    refine ⟨⟨i, hr⟩, fun j oj hj hrj => ?_⟩
    by_cases hji : j = i
    · subst hji
      obtain rfl : oi = oj := Option.some.inj (hi.symm.trans hj)
      exact ⟨v, hy, H⟩
    · have h1 := H.1 j hrj.1
      rw [more_ne hji, hrj.2.1] at h1
      cases h1
  | succ f ih =>
    intro done a hfree hr hy H
    refine ⟨⟨i, hr⟩, fun j oj hj hrj => ?_⟩
    by_cases hji : j = i
    · subst hji
      obtain rfl : oi = oj := Option.some.inj (hi.symm.trans hj)
      exact ⟨v, hy, H⟩
    · obtain ⟨u, hu, hn⟩ := H.2 j oj hj (rdy_more hrj hji)
      have hno : ∀ e ∈ oj.after, Region.binds md e = true → e.on ≠ i := fun e he hb heq => by
        obtain ⟨_, _, o', ho', hall⟩ := hrj
        obtain rfl : o' = oj := Option.some.inj (ho'.symm.trans hj)
        have h1 := hall e he hb
        rw [heq, hr.2.1] at h1
        cases h1
      obtain ⟨h1, h2, h3⟩ := Oper.apart_spec (hfree j oj hj hrj.1 hji hrj.2.1 hno)
      have k1 : Calm P ops W0 oj u a := hu.same (execOp_put oj (fun cs b => hsel j oj cs b hj) a oi.dst v h1).symm (wanted_put oj a oi.dst v h1).symm
      have k2 : Calm P ops W0 oi v (a.put oj.dst u) := hy.same (execOp_put oi (fun cs b => hsel i oi cs b hi) a oj.dst u h3) (wanted_put oi a oj.dst u h3)
      refine ⟨u, k1, ih (more done j) (a.put oj.dst u) (fun k ok hk hkn hki hun hno' => hfree k ok hk hkn hki ?_ hno') (rdy_more hr (Ne.symm hji)) k2 ?_⟩
      · by_cases hkj : k = j
        · subst hkj; exact hrj.2.1
        · rwa [more_ne hkj] at hun
      · rw [more_comm, ← Act.put_comm a v u h2]
        exact hn

/-- the head's lexical order is one of its orders, and all that don't wait for one another are apart -/
def headB (md : Region.Mode) (ops : Array Oper) (n : Nat) : Bool :=
  (List.range n).all fun i => match ops[i]? with
    | none => false
    | some oi => (oi.after.all fun e => !Region.binds md e || decide (e.on < i)) && (List.range n).all fun j => decide (j ≤ i) || Region.waitsFor md ops j i || match ops[j]? with
      | none => true
      | some oj => oi.apart ops oj
theorem headB_on {n i : Nat} {oi : Oper} (h : headB md ops n = true) (hi : i < n) (ho : ops[i]? = some oi) : ∀ e ∈ oi.after, Region.binds md e = true → e.on < i := fun e he hb => by
  have h1 := List.all_eq_true.1 h i (List.mem_range.2 hi)
  simp only [ho, Bool.and_eq_true] at h1
  have h2 := Array.all_eq_true_iff_forall_mem.1 h1.1 e he
  simpa [hb] using h2
theorem headB_apart {n i j : Nat} {oi oj : Oper} (h : headB md ops n = true) (hi : i < n) (ho : ops[i]? = some oi) (hj : j < n) (hoj : ops[j]? = some oj) (hij : i < j)
    (hno : ∀ e ∈ oj.after, Region.binds md e = true → e.on ≠ i) : oi.apart ops oj = true := by
  have h1 := List.all_eq_true.1 h i (List.mem_range.2 hi)
  simp only [ho, Bool.and_eq_true] at h1
  have h2 := List.all_eq_true.1 h1.2 j (List.mem_range.2 hj)
  simp only [hoj, Bool.or_eq_true, decide_eq_true_eq] at h2
  rcases h2 with (h2 | h2) | h2
  · omega
  · obtain ⟨o', ho', e, he, hb, hon⟩ := Region.waitsFor_spec h2
    obtain rfl : o' = oj := Option.some.inj (ho'.symm.trans hoj)
    exact absurd hon (hno e he hb)
  · exact h2

theorem anyF_lex {n : Nat} {Q : Act → Prop} (hsel : Region.noSelect ops = true) (hB : headB md ops n = true) : ∀ (l : List Oper) (k : Nat) (a : Act), (∀ j, j < l.length → l[j]? = ops[k + j]?) → k + l.length = n →
    wpCalm P ops W0 Q l a → AnyF P md ops W0 n Q l.length (fun j => decide (j < k)) a
  | [], k, a, _, hk, h => ⟨fun i hi => decide_eq_true (by simp only [List.length_nil] at hk; omega), h⟩
  | o :: l, k, a, hl, hk, h => by
    have h0 : ops[k]? = some o := by simpa using (hl 0 (by simp)).symm
    have hkn : k < n := by simp only [List.length_cons] at hk; omega
    obtain ⟨v, hy, hK⟩ := wpCalm_cons h
    have IH := anyF_lex (Q := Q) hsel hB l (k + 1) (a.put o.dst v) (fun j hj => by have := hl (j + 1) (by simp; omega); simpa [Nat.add_assoc, Nat.add_comm 1 j] using this) (by simp only [List.length_cons] at hk; omega) hK
    have e : (fun j => decide (j < k + 1)) = more (fun j => decide (j < k)) k := by
      funext j
      unfold more
      split
      · rename_i hjk; subst hjk; simp
      · by_cases hjk : j < k
        · simp [hjk]; omega
        · simp [hjk]; omega
    rw [e] at IH
    refine anyF_first h0 (Region.noSelect_spec hsel) l.length _ a (fun j oj hj hjn hne hun hno => ?_) ⟨hkn, by simp, o, h0, fun e he hb => decide_eq_true (headB_on hB hkn h0 e he hb)⟩ hy IH
    have : ¬ j < k := of_decide_eq_false hun
    exact headB_apart hB hkn h0 hjn hj (by omega) hno

/-! ### the new variables -/
/-- where operation number j puts its value -/
def dstOf (ops : Array Oper) (j : Nat) : Option Tmp := (ops[j]?).bind (·.dst)
/-- the new variables' pointers, over a frame -/
def ov (ops : Array Oper) : List (Nat × Nat) → Act → Act
  | [], a => a
  | p :: σ, a => (ov ops σ a).put (dstOf ops p.1) (.pointer (some ⟨p.2, 0, none⟩))
/-- an operation that makes a variable -/
structure IsNew (P : Program) (ops : Array Oper) (j : Nat) (o : Oper) (Z : Obj) : Prop where
  here : ops[j]? = some o
  after : o.after = #[]
  wants : ∀ tmps, Region.wanted o (yielded ops tmps) = true
  runs : ∀ (a : Act) w, (execOp a.eval o).run P w = .ok (.value (.pointer (some ⟨w.heap.size, 0, none⟩))) (w.alloc Z)
/-- the new variables are apart from the head -/
def newB (ops : Array Oper) (n m : Nat) : Bool :=
  (List.range m).all fun j => decide (j < n) || match ops[j]? with
    | none => false
    | some oj => (List.range n).all fun i => match ops[i]? with
      | none => false
      | some oi => oj.apart ops oi
theorem newB_spec {n m j i : Nat} {oi : Oper} (h : newB ops n m = true) (h1 : n ≤ j) (h2 : j < m) (hi : i < n) (ho : ops[i]? = some oi) :
    (∀ d, dstOf ops j = some d → d ∉ oi.looksAt ops) ∧ (∀ d, dstOf ops j = some d → oi.dst ≠ some d) := by
  have k1 := List.all_eq_true.1 h j (List.mem_range.2 h2)
  simp only [Bool.or_eq_true, decide_eq_true_eq] at k1
  rcases k1 with k1 | k1
  · omega
  · cases hj : ops[j]? with
    | none => simp [hj] at k1
    | some oj =>
      simp only [hj] at k1
      have k2 := List.all_eq_true.1 k1 i (List.mem_range.2 hi)
      simp only [ho] at k2
      obtain ⟨a1, a2, _⟩ := Oper.apart_spec k2
      have e : dstOf ops j = oj.dst := by unfold dstOf; rw [hj]; rfl
      rw [e]
      exact ⟨a1, a2⟩

theorem ov_exec {oi : Oper} (hs : ∀ cs b, oi.op ≠ .select cs b) (a : Act) : ∀ σ : List (Nat × Nat), (∀ p ∈ σ, ∀ d, dstOf ops p.1 = some d → d ∉ oi.looksAt ops) → execOp (ov ops σ a).eval oi = execOp a.eval oi
  | [], _ => rfl
  | p :: σ, h => (execOp_put oi hs _ _ _ (h p (List.mem_cons_self ..))).trans (ov_exec hs a σ fun q hq => h q (List.mem_cons_of_mem _ hq))
theorem ov_wanted {oi : Oper} (a : Act) : ∀ σ : List (Nat × Nat), (∀ p ∈ σ, ∀ d, dstOf ops p.1 = some d → d ∉ oi.looksAt ops) → Region.wanted oi (yielded ops (ov ops σ a).tmps) = Region.wanted oi (yielded ops a.tmps)
  | [], _ => rfl
  | p :: σ, h => (wanted_put oi _ _ _ (h p (List.mem_cons_self ..))).trans (ov_wanted a σ fun q hq => h q (List.mem_cons_of_mem _ hq))
theorem ov_put {x : Option Tmp} (a : Act) (v : Value) : ∀ σ : List (Nat × Nat), (∀ p ∈ σ, ∀ d, dstOf ops p.1 = some d → x ≠ some d) → (ov ops σ a).put x v = ov ops σ (a.put x v)
  | [], _ => rfl
  | p :: σ, h => by
    show ((ov ops σ a).put _ _).put x v = (ov ops σ (a.put x v)).put _ _
    rw [Act.put_comm _ _ _ (h p (List.mem_cons_self ..)), ov_put a v σ fun q hq => h q (List.mem_cons_of_mem _ hq)]

theorem wp_of_calm {o : Oper} {a : Act} {w : World} {v : Value} {K : Act → World → Prop} {Q : Exit → Act → World → Prop} (h : o.quietAt P a (fun w2 => Below w.heap.size w w2) w v)
    (hk : ∀ w2, Below w.heap.size w w2 → K (a.put o.dst v) w2) : o.wp P a w K Q := by
  unfold Oper.quietAt at h
  unfold Oper.wp
  generalize (execOp a.eval o).run P w = r at *
  cases r with
  | ok x w' =>
    cases x <;> simp only [Oper.quietUpon] at h <;> simp only [Oper.upon]
    case value u => obtain ⟨rfl, rfl⟩ := h; exact hk _ (Below.refl _ _)
    case skip => obtain ⟨rfl, rfl⟩ := h; exact hk _ (Below.refl _ _)
    case enter f args =>
      obtain ⟨rfl, hc⟩ := h
      exact hc.mono fun e w2 hh => by obtain ⟨rfl, hb⟩ := hh; exact hk w2 hb
  | halt x w' => simp only [Oper.quietUpon] at h

/-! ### how many are left -/
def left (ls : Array Bool) : Nat → Nat
  | 0 => 0
  | m + 1 => left ls m + if ls.getD m false = true then 0 else 1
theorem left_none {ls : Array Bool} : ∀ {m : Nat}, left ls m = 0 → ∀ i, i < m → ls.getD i false = true
  | m + 1, h, i, hi => by
    unfold left at h
    by_cases him : i = m
    · subst him
      by_cases hh : ls.getD i false = true
      · exact hh
      · rw [if_neg hh] at h; omega
    · exact left_none (m := m) (by omega) i (by omega)
theorem left_some {ls : Array Bool} : ∀ {m : Nat}, left ls m ≠ 0 → ∃ i, i < m ∧ ls.getD i false = false
  | 0, h => absurd rfl h
  | m + 1, h => by
    by_cases hh : ls.getD m false = true
    · unfold left at h
      rw [if_pos hh] at h
      obtain ⟨i, h1, h2⟩ := left_some (m := m) (by omega)
      exact ⟨i, by omega, h2⟩
    · exact ⟨m, by omega, by simpa using hh⟩
theorem left_same {ls : Array Bool} {i : Nat} : ∀ {m : Nat}, m ≤ i → left (ls.setIfInBounds i true) m = left ls m
  | 0, _ => rfl
  | m + 1, h => by unfold left; rw [left_same (m := m) (by omega), getD_set_ne false (by omega)]
theorem left_set {ls : Array Bool} {i : Nat} (hs : i < ls.size) (hu : ls.getD i false = false) : ∀ {m : Nat}, i < m → left (ls.setIfInBounds i true) m + 1 = left ls m
  | m + 1, h => by
    unfold left
    by_cases him : i = m
    · subst him
      rw [left_same (Nat.le_refl _), if_pos (by simp [hs]), if_neg (by rw [hu]; simp)]
    · have := left_set hs hu (m := m) (by omega)
      rw [getD_set_ne false him]
      omega

/-- the first m are listed, no other -/
def upto (ops : Array Oper) (m : Nat) : Array Bool := ((List.range ops.size).map fun i => decide (i < m)).toArray
theorem getD_set_self {ls : Array Bool} {i : Nat} (h : i < ls.size) (d : Bool) : (ls.setIfInBounds i true).getD i d = true := by simp [h]
theorem upto_of {ls : Array Bool} {m : Nat} (hs : ls.size = ops.size) (h1 : ∀ i, i < m → ls.getD i false = true) (h2 : ∀ i, m ≤ i → ls.getD i false = false) : ls = upto ops m := by
  apply Array.ext
  · simp [upto, hs]
  · intro i hi hi'
    have e : ls.getD i false = ls[i] := by simp [hi]
    rw [← e]
    by_cases hm : i < m
    · rw [h1 i hm]; simp [upto, hm]
    · rw [h2 i (by omega)]; simp [upto, hm]

/-- all that a state is held to -/
structure Sok (ops : Array Oper) (W0 : World) (Z : Nat → Obj) (n m : Nat) (ls : Array Bool) (σ : List (Nat × Nat)) (w : World) : Prop where
  size : ls.size = ops.size
  tail : ∀ t, m ≤ t → ls.getD t false = false
  some : ∀ p ∈ σ, n ≤ p.1 ∧ p.1 < m ∧ ls.getD p.1 false = true ∧ W0.heap.size ≤ p.2 ∧ p.2 < w.heap.size ∧ w.heap[p.2]? = some (Z p.1)
  all : ∀ j, n ≤ j → j < m → ls.getD j false = true → ∃ D, (j, D) ∈ σ
  keys : (σ.map (·.1)).Nodup
  apart : (σ.map (·.2)).Nodup
  bel : Below W0.heap.size W0 w
theorem Sok.grow {Z : Nat → Obj} {n m : Nat} {ls : Array Bool} {σ : List (Nat × Nat)} {w w2 : World} (h : Sok ops W0 Z n m ls σ w) (hb : Below w.heap.size w w2) : Sok ops W0 Z n m ls σ w2 :=
  ⟨h.size, h.tail, fun p hp => by
    obtain ⟨a1, a2, a3, a4, a5, a6⟩ := h.some p hp
    exact ⟨a1, a2, a3, a4, Nat.lt_of_lt_of_le a5 hb.size, (hb.block p.2 a5).trans a6⟩, h.all, h.keys, h.apart, below_class h.bel hb⟩
theorem Sok.head {Z : Nat → Obj} {n m : Nat} {ls : Array Bool} {σ : List (Nat × Nat)} {w : World} (h : Sok ops W0 Z n m ls σ w) {i : Nat} (hi : i < n) (hnm : n ≤ m) : Sok ops W0 Z n m (ls.setIfInBounds i true) σ w :=
  ⟨by simp [h.size], fun t ht => by rw [getD_set_ne false (by omega)]; exact h.tail t ht, fun p hp => by
    obtain ⟨a1, a2, a3, a4, a5, a6⟩ := h.some p hp
    exact ⟨a1, a2, getD_set_true a3, a4, a5, a6⟩, fun j h1 h2 h3 => h.all j h1 h2 (by rwa [getD_set_ne false (by omega)] at h3), h.keys, h.apart, h.bel⟩
theorem Sok.made {Z : Nat → Obj} {n m : Nat} {ls : Array Bool} {σ : List (Nat × Nat)} {w : World} (h : Sok ops W0 Z n m ls σ w) {i : Nat} (h1 : n ≤ i) (h2 : i < m) (hs : i < ls.size) (hu : ls.getD i false = false) :
    Sok ops W0 Z n m (ls.setIfInBounds i true) ((i, w.heap.size) :: σ) (w.alloc (Z i)) := by
  refine ⟨by simp [h.size], fun t ht => by rw [getD_set_ne false (by omega)]; exact h.tail t ht, fun p hp => ?_, fun j j1 j2 j3 => ?_, ?_, ?_, h.bel.alloc h.bel.size _⟩
  · rcases List.mem_cons.1 hp with rfl | hp
    · exact ⟨h1, h2, getD_set_self hs false, h.bel.size, by simp, World.alloc_heap_new w _⟩
    · obtain ⟨a1, a2, a3, a4, a5, a6⟩ := h.some p hp
      exact ⟨a1, a2, getD_set_true a3, a4, by simp; omega, (Below.heap_alloc w _ p.2 a5).trans a6⟩
  · by_cases hji : i = j
    · subst hji; exact ⟨_, List.mem_cons_self ..⟩
    · rw [getD_set_ne false hji] at j3
      obtain ⟨D, hD⟩ := h.all j j1 j2 j3
      exact ⟨D, List.mem_cons_of_mem _ hD⟩
  · simp only [List.map_cons, List.nodup_cons]
    refine ⟨fun hm => ?_, h.keys⟩
    obtain ⟨p, hp, he⟩ := List.mem_map.1 hm
    have := (h.some p hp).2.2.1
    rw [he, hu] at this
    cases this
  · simp only [List.map_cons, List.nodup_cons]
    refine ⟨fun hm => ?_, h.apart⟩
    obtain ⟨p, hp, he⟩ := List.mem_map.1 hm
    have := (h.some p hp).2.2.2.2.1
    omega

/-- whatever order is drawn -/
theorem any_new {Q : Act → Prop} {Q' : Exit → Act → World → Prop} {Z : Nat → Obj} {n m g : Nat} (hsel : Region.noSelect ops = true) (hB : headB md ops n = true) (hN : newB ops n m = true) (hnm : n ≤ m) (hmo : m < ops.size)
    (hnew : ∀ j, n ≤ j → j < m → ∃ o, IsNew P ops j o (Z j)) (hsink : Region.sinkB md ops m = true) (hchain : Region.chainB md ops m = true)
    (hend : ∀ a σ w, Sok ops W0 Z n m (upto ops m) σ w → Q a → wpAny P md ops Q' g (upto ops m) (ov ops σ a) w) :
    ∀ (c : Nat) (ls : Array Bool) (done : Nat → Bool) (a : Act) (σ : List (Nat × Nat)) (w : World) (f : Nat), left ls m = c → (∀ i, i < n → ls.getD i false = done i) → HeadInv md ops m ls → Sok ops W0 Z n m ls σ w →
      AnyF P md ops W0 n Q f done a → wpAny P md ops Q' (c + g) ls (ov ops σ a) w := by
  intro c
  induction c with
  | zero =>
    intro ls done a σ w f hc hd _ hs hF
    have hall := left_none hc
    obtain rfl := upto_of hs.size hall hs.tail
    cases f with
    | zero => rw [Nat.zero_add]; exact hend a σ w hs hF.2
    | succ f =>
      obtain ⟨i, hi, hf, _⟩ := hF.1
      rw [← hd i hi, hall i (by omega)] at hf
      cases hf
  | succ c ih =>
    intro ls done a σ w f hc hd inv hs hF
    obtain ⟨i0, hi0, hu0⟩ := left_some (ls := ls) (m := m) (by omega)
    have hsz0 : i0 < ls.size := by rw [hs.size]; omega
    have notail : ∀ i ∈ Region.ready md ops ls, i < m := fun i hi => by
      rcases Nat.lt_or_ge i m with h | h
      · exact h
      · exact absurd hi (tail_waits hsink hchain hmo inv _ i0 rfl hi0 (getD_in hsz0 hu0) i h)
    rw [show c + 1 + g = (c + g) + 1 by omega]
    refine ⟨fun hnil => ?_, fun i hi => ?_⟩
    · exfalso
      rcases Nat.lt_or_ge i0 n with h | h
      · cases f with
        | zero =>
          have := hF.1 i0 h
          rw [← hd i0 h, hu0] at this
          cases this
        | succ f =>
          obtain ⟨i, hi, hf, o, ho, hall⟩ := hF.1
          have : i ∈ Region.ready md ops ls := mem_ready.2 ⟨getD_in (by rw [hs.size]; exact (Array.getElem?_eq_some_iff.1 ho).1) (by rw [hd i hi]; exact hf), o, ho, fun e he hb => by
            rw [hd e.on (by have := headB_on hB hi ho e he hb; omega)]; exact hall e he hb⟩
          rw [hnil] at this
          cases this
      · obtain ⟨o, ho⟩ := hnew i0 h hi0
        have : i0 ∈ Region.ready md ops ls := mem_ready.2 ⟨getD_in hsz0 hu0, o, ho.here, fun e he => by rw [ho.after] at he; simp at he⟩
        rw [hnil] at this
        cases this
    · have him := notail i hi
      obtain ⟨hun, o, ho, hall⟩ := mem_ready.1 hi
      have hu := getD_both hun
      have hsz : i < ls.size := by rw [hs.size]; omega
      have hc' : left (ls.setIfInBounds i true) m = c := by have := left_set hsz hu him; omega
      rcases Nat.lt_or_ge i n with hin | hin
      · have hr : rdy md ops n done i := ⟨hin, by rw [← hd i hin]; exact hu, o, ho, fun e he hb => by
          rw [← hd e.on (by have := headB_on hB hin ho e he hb; omega)]; exact hall e he hb⟩
        cases f with
        | zero =>
          have := hF.1 i hin
          rw [hr.2.1] at this
          cases this
        | succ f =>
          obtain ⟨v, hy, hn⟩ := hF.2 i o ho hr
          have hap : ∀ p ∈ σ, (∀ d, dstOf ops p.1 = some d → d ∉ o.looksAt ops) ∧ (∀ d, dstOf ops p.1 = some d → o.dst ≠ some d) := fun p hp => newB_spec hN (hs.some p hp).1 (hs.some p hp).2.1 hin ho
          have hd' : ∀ k, k < n → (ls.setIfInBounds i true).getD k false = more done i k := fun k hk => by
            by_cases hki : k = i
            · subst hki; rw [getD_set_self hsz]; unfold more; rw [if_pos rfl]
            · rw [getD_set_ne false (Ne.symm hki), more_ne hki]; exact hd k hk
          have go : ∀ w2, Below w.heap.size w w2 → wpAny P md ops Q' (c + g) (ls.setIfInBounds i true) ((ov ops σ a).put o.dst v) w2 := fun w2 hb => by
            rw [ov_put a v σ fun p hp => (hap p hp).2]
            exact ih _ _ _ σ w2 f hc' hd' (inv.set hi him) ((hs.head hin hnm).grow hb) hn
          unfold wpOp
          rw [ho]
          simp only [ov_wanted a σ fun p hp => (hap p hp).1]
          rcases hy with ⟨hw, hq⟩ | ⟨hw, rfl⟩
          · rw [if_pos hw]
            refine .inl (wp_of_calm (v := v) ?_ go)
            have := hq w hs.bel
            unfold Oper.quietAt at *
            rwa [ov_exec (Region.noSelect_spec hsel i o · · ho) a σ fun p hp => (hap p hp).1]
          · rw [if_neg (by rw [hw]; simp)]
            exact go w (Below.refl _ _)
      · obtain ⟨o', ho'⟩ := hnew i hin him
        obtain rfl : o' = o := Option.some.inj (ho'.here.symm.trans ho)
        unfold wpOp
        rw [ho]
        simp only
        rw [if_pos (ho'.wants _)]
        refine .inl ?_
        unfold Oper.wp
        rw [ho'.runs]
        simp only [Oper.upon]
        have e : dstOf ops i = o'.dst := by unfold dstOf; rw [ho]; rfl
        have := ih (ls.setIfInBounds i true) done a ((i, w.heap.size) :: σ) (w.alloc (Z i)) f hc' (fun k hk => by rw [getD_set_ne false (by omega)]; exact hd k hk) (inv.set hi him) (hs.made hin him hsz hu) hF
        unfold ov at this
        rw [e] at this
        exact this

/-- the region's shape, as one Bool -/
def shapeB (md : Region.Mode) (ops : Array Oper) (n m : Nat) : Bool :=
  Region.noSelect ops && headB md ops n && newB ops n m && decide (n ≤ m) && decide (m < ops.size) && Region.sinkB md ops m && Region.chainB md ops m && Region.seqB md ops (ops.size - m) m (upto ops m)
end

theorem wp_region_new {P : Program} {id : Nat} {Q : Exit → Act → World → Prop} {a : Act} {w : World} {l : List Oper} (n m : Nat) (Z : Nat → Obj) (hm : P.follows .mixedOrders = true) (hB : shapeB .any l.toArray n m = true)
    (hnew : ∀ j, n ≤ j → j < m → ∃ o, IsNew P l.toArray j o (Z j))
    (h : wpCalm P l.toArray w.drew (fun a' => ∀ σ w', Sok l.toArray w.drew Z n m (upto l.toArray m) σ w' → wpList P l.toArray Q (l.drop m) (ov l.toArray σ a') w') (l.take n) a) :
    (Code.region id l.toArray true).wp P Q a w := by
  simp only [shapeB, Bool.and_eq_true, decide_eq_true_eq] at hB
  obtain ⟨⟨⟨⟨⟨⟨⟨hsel, hhead⟩, hnewB⟩, hnm⟩, hmo⟩, hsink⟩, hchain⟩, hseq⟩ := hB
  have hmo' : m < l.length := by simpa using hmo
  have htl : (l.take n).length = n := by simp; omega
  have hdl : (l.drop m).length = l.toArray.size - m := by simp
  have inv0 : HeadInv .any l.toArray m (Array.replicate l.toArray.size false) :=
    ⟨by simp, fun j oj _ hl => (by rw [getD_replicate_false] at hl; cases hl), fun t _ ht => getD_in (by simpa using ht) (getD_replicate_false _ _)⟩
  have H := anyF_lex (md := .any) (n := n) hsel hhead (l.take n) 0 a (fun j hj => by
    have hj' : j < n := by rw [htl] at hj; exact hj
    simp [hj']) (by simpa using htl) h
  rw [htl] at H
  have hl0 : left (Array.replicate l.toArray.size false) m = m := by
    have : ∀ k, left (Array.replicate l.toArray.size false) k = k := fun k => by
      induction k with
      | zero => rfl
      | succ k ih => unfold left; rw [ih, getD_replicate_false]; simp
    exact this m
  refine wp_region_any hm ?_
  have := any_new (md := .any) (W0 := w.drew) (Q' := Q) (g := l.toArray.size - m) hsel hhead hnewB hnm hmo hnew hsink hchain (fun a' σ w' hs hQ => by
    have := wpAny_of_seq (md := .any) (Q' := Q) (l.drop m) m (upto l.toArray m) (ov l.toArray σ a') w' (fun j => by simp [List.getElem?_drop]) (by rw [hdl]; exact hseq) (hQ σ w' hs)
    rwa [hdl] at this) m (Array.replicate l.toArray.size false) (fun j => decide (j < 0)) a [] w.drew n hl0 (fun i _ => by rw [getD_replicate_false]; simp) inv0
    ⟨by simp, fun t _ => getD_replicate_false _ _, fun p hp => (by cases hp), fun j _ _ hj => (by rw [getD_replicate_false] at hj; cases hj), List.nodup_nil, List.nodup_nil, Below.refl _ _⟩ H
  rw [show m + (l.toArray.size - m) = l.toArray.size by omega] at this
  exact this

theorem upto_get {ops : Array Oper} {m i : Nat} (h1 : i < m) (h2 : i < ops.size) : (upto ops m).getD i false = true := by
  simp [upto, List.getElem?_range h2, h1]
theorem shapeB_size {ops : Array Oper} {n m : Nat} (h : shapeB .any ops n m = true) : m ≤ ops.size := by
  simp only [shapeB, Bool.and_eq_true, decide_eq_true_eq] at h
  exact Nat.le_of_lt h.1.1.1.2

/-- one new variable -/
theorem wp_region_new1 {P : Program} {id : Nat} {Q : Exit → Act → World → Prop} {a : Act} {w : World} {l : List Oper} (n : Nat) (d : Tmp) (Z : Obj) (hm : P.follows .mixedOrders = true) (hB : shapeB .any l.toArray n (n + 1) = true)
    (hd : dstOf l.toArray n = some d) (hnew : ∃ o, IsNew P l.toArray n o Z)
    (h : wpCalm P l.toArray w.drew (fun a' => ∀ D w', Below w.drew.heap.size w.drew w' → w.heap.size ≤ D → w'.heap[D]? = some Z → wpList P l.toArray Q (l.drop (n + 1)) (a'.put (some d) (.pointer (some ⟨D, 0, none⟩))) w') (l.take n) a) :
    (Code.region id l.toArray true).wp P Q a w := by
  refine wp_region_new n (n + 1) (fun _ => Z) hm hB (fun j h1 h2 => ?_) ?_
  · obtain rfl : j = n := by omega
    exact hnew
  refine wpCalm_mono (fun a' ha σ w' hs => ?_) _ a h
  obtain ⟨D, hD⟩ := hs.all n (Nat.le_refl _) (by omega) (upto_get (by omega) (shapeB_size hB))
  match σ, hs, hD with
  | [p], hs, hD =>
    obtain rfl : (n, D) = p := by simpa using hD
    obtain ⟨_, _, _, b4, _, b6⟩ := hs.some _ (List.mem_cons_self ..)
    show wpList P l.toArray Q _ (a'.put (dstOf l.toArray n) _) w'
    rw [hd]
    exact ha D w' hs.bel b4 b6
  | p :: q :: r, hs, _ =>
    exfalso
    have hk := hs.keys
    have h1 := hs.some p (by simp)
    have h2 := hs.some q (by simp)
    simp only [List.map_cons, List.nodup_cons, List.mem_cons, not_or] at hk
    omega

/-- two new variables -/
theorem wp_region_new2 {P : Program} {id : Nat} {Q : Exit → Act → World → Prop} {a : Act} {w : World} {l : List Oper} (n : Nat) (d e : Tmp) (Z Z' : Obj) (hm : P.follows .mixedOrders = true) (hB : shapeB .any l.toArray n (n + 2) = true)
    (hnew : ∃ o, IsNew P l.toArray n o Z) (hnew' : ∃ o, IsNew P l.toArray (n + 1) o Z') (hd : dstOf l.toArray n = some d) (he : dstOf l.toArray (n + 1) = some e) (hde : d ≠ e)
    (h : wpCalm P l.toArray w.drew (fun a' => ∀ D E w', Below w.drew.heap.size w.drew w' → w.heap.size ≤ D → w.heap.size ≤ E → D ≠ E → w'.heap[D]? = some Z → w'.heap[E]? = some Z' →
      wpList P l.toArray Q (l.drop (n + 2)) ((a'.put (some d) (.pointer (some ⟨D, 0, none⟩))).put (some e) (.pointer (some ⟨E, 0, none⟩))) w') (l.take n) a) :
    (Code.region id l.toArray true).wp P Q a w := by
  refine wp_region_new n (n + 2) (fun j => if j = n then Z else Z') hm hB (fun j h1 h2 => ?_) ?_
  · by_cases hj : j = n
    · subst hj; rw [if_pos rfl]; exact hnew
    · obtain rfl : j = n + 1 := by omega
      rw [if_neg hj]; exact hnew'
  refine wpCalm_mono (fun a' ha σ w' hs => ?_) _ a h
  obtain ⟨D, hD⟩ := hs.all n (Nat.le_refl _) (by omega) (upto_get (by omega) (Nat.le_trans (by omega) (shapeB_size hB)))
  obtain ⟨E, hE⟩ := hs.all (n + 1) (by omega) (by omega) (upto_get (by omega) (shapeB_size hB))
  have sD := hs.some _ hD
  have sE := hs.some _ hE
  simp only [if_pos, show ¬ (n + 1 = n) by omega, if_false] at sD sE
  have go : D ≠ E → wpList P l.toArray Q (l.drop (n + 2)) ((a'.put (some d) (.pointer (some ⟨D, 0, none⟩))).put (some e) (.pointer (some ⟨E, 0, none⟩))) w' := fun hne => ha D E w' hs.bel sD.2.2.2.1 sE.2.2.2.1 hne sD.2.2.2.2.2 sE.2.2.2.2.2
  clear sD sE
  match σ, hs, hD, hE with
  | [p], _, hD, hE =>
    exfalso
    have e1 : (n, D) = p := by simpa using hD
    have e2 : (n + 1, E) = p := by simpa using hE
    rw [← e2] at e1
    have := congrArg Prod.fst e1
    simp at this
  | [p, q], hs, hD, hE =>
    have hap := hs.apart
    simp only [List.map_cons, List.map_nil, List.nodup_cons, List.mem_cons, List.not_mem_nil, or_false] at hap hD hE
    rcases hD with rfl | rfl
    · rcases hE with hE | rfl
      · exact absurd (congrArg Prod.fst hE) (by simp)
      · show wpList P l.toArray Q _ ((a'.put (dstOf l.toArray (n + 1)) _).put (dstOf l.toArray n) _) w'
        rw [hd, he, ← Act.put_comm a' _ _ (fun k hk h => hde (Option.some.inj (hk.trans h.symm)))]
        exact go hap.1
    · rcases hE with rfl | hE
      · show wpList P l.toArray Q _ ((a'.put (dstOf l.toArray n) _).put (dstOf l.toArray (n + 1)) _) w'
        rw [hd, he]
        exact go fun h => hap.1 h.symm
      · exact absurd (congrArg Prod.fst hE) (by simp)
  | p :: q :: r :: t, hs, _, _ =>
    exfalso
    have hk := hs.keys
    have h1 := hs.some p (by simp)
    have h2 := hs.some q (by simp)
    have h3 := hs.some r (by simp)
    simp only [List.map_cons, List.nodup_cons, List.mem_cons, not_or] at hk
    omega

end Go.Proofs.Ytdfdkddjkhcgdai

/- A region that draws its order, reads and calls, and then stores. -/
namespace Go.Proofs.Ytdfdkddjkhcgdai
open Go.RowKit

/-- its head (the first n operations) reads and calls (callees may make memory); what is behind it waits for all of it -/
theorem wp_region_tail {P : Program} {id : Nat} {Q : Exit → Act → World → Prop} {a : Act} {w : World} {l : List Oper} (n : Nat) (hm : P.follows .mixedOrders = true) (hB : shapeB .any l.toArray n n = true)
    (h : wpCalm P l.toArray w.drew (fun a' => ∀ w', Below w.drew.heap.size w.drew w' → wpList P l.toArray Q (l.drop n) a' w') (l.take n) a) :
    (Code.region id l.toArray true).wp P Q a w := by
  refine wp_region_new n n (fun _ => .cells #[] 0) hm hB (fun j h1 h2 => by omega) ?_
  refine wpCalm_mono (fun a' ha σ w' hs => ?_) _ a h
  match σ, hs with
  | [], hs => exact ha w' hs.bel
  | p :: r, hs =>
    exfalso
    have h1 := hs.some p (by simp)
    omega
theorem calm_val {P : Program} {W0 : World} {K : Act → Prop} {o : Oper} {a : Act} (v : Value) (hrun : ∀ w, Below W0.heap.size W0 w → (execOp a.eval o).run P w = .ok (.value v) w) (h : K (a.put o.dst v)) : Oper.calm P W0 o a K :=
  ⟨v, fun w hw => by unfold Oper.quietAt; rw [hrun w hw]; exact ⟨rfl, rfl⟩, h⟩
section
variable {W0 : World} {K : Act → Prop} {o : Oper} {a : Act}
theorem calm_load27 (x : Operand) (b : Nat) (s : St) (vc vw : Value) (ho : o.op = .load 36 x) (hx : a.eval x = .pointer (some ⟨b, 0, none⟩)) (hr : ∀ w, Below W0.heap.size W0 w → NB w b s vc vw)
    (h : K (a.put o.dst (.agg (nv s vc vw).toArray))) : Oper.calm Try.prog W0 o a K :=
  calm_val _ (fun w hw => by unfold execOp; simp only [ho, hx, Sem.run_bind, Sem.run_pure, Result.andThen_ok, load27 w b s vc vw (hr w hw).range]) h
theorem calm_load3 (x : Operand) (b k : Nat) {v : Value} (ho : o.op = .load 3 x) (hx : a.eval x = .pointer (some ⟨b, k, none⟩)) (hr : ∀ w, Below W0.heap.size W0 w → w.cell? ⟨b, k, none⟩ = some v)
    (h : K (a.put o.dst v)) : Oper.calm Try.prog W0 o a K :=
  calm_val _ (fun w hw => by unfold execOp; simp only [ho, hx, Sem.run_bind, Sem.run_pure, Result.andThen_ok, load3 w b k v (hr w hw)]) h
theorem loadLI (w : World) (b o : Nat) (v : Value) (h : w.cell? ⟨b, o, none⟩ = some v) : (Instr.loadAt 44 (.pointer (some ⟨b, o, none⟩))).run Try.prog w = .ok v w := by simp [go_sem, h]
theorem calm_loadLI (x : Operand) (b k : Nat) {v : Value} (ho : o.op = .load 44 x) (hx : a.eval x = .pointer (some ⟨b, k, none⟩)) (hr : ∀ w, Below W0.heap.size W0 w → w.cell? ⟨b, k, none⟩ = some v)
    (h : K (a.put o.dst v)) : Oper.calm Try.prog W0 o a K :=
  calm_val _ (fun w hw => by unfold execOp; simp only [ho, hx, Sem.run_bind, Sem.run_pure, Result.andThen_ok, loadLI w b k v (hr w hw)]) h
theorem calm_ixI (x y : Operand) {g f n cap j : Nat} (ho : o.op = .indexAddr 44 x y) (hx : a.eval x = .slice (some ⟨g, f, none⟩) n cap) (hy : a.eval y = .int .i64 (j : Int)) (hj : j < n)
    (h : K (a.put o.dst (.pointer (some ⟨g, f + j, none⟩)))) : Oper.calm Try.prog W0 o a K :=
  calm_val _ (fun w hw => by unfold execOp; simp only [ho, hx, hy, Sem.run_bind, Sem.run_pure, Result.andThen_ok, ixI w rfl hj]) h
theorem calm_ixP (x y : Operand) {g f n cap j : Nat} (ho : o.op = .indexAddr 40 x y) (hx : a.eval x = .slice (some ⟨g, f, none⟩) n cap) (hy : a.eval y = .int .i64 (j : Int)) (hj : j < n)
    (h : K (a.put o.dst (.pointer (some ⟨g, f + j, none⟩)))) : Oper.calm Try.prog W0 o a K :=
  calm_val _ (fun w hw => by unfold execOp; simp only [ho, hx, hy, Sem.run_bind, Sem.run_pure, Result.andThen_ok, ixP w rfl hj]) h
end
section
variable {C : World → Prop} {K : Act → Prop} {o : Oper} {a : Act}
theorem quiet_loadLI (x : Operand) (b k : Nat) {v : Value} (ho : o.op = .load 44 x) (hx : a.eval x = .pointer (some ⟨b, k, none⟩)) (hr : ∀ w, C w → w.cell? ⟨b, k, none⟩ = some v)
    (h : K (a.put o.dst v)) : o.quiet Try.prog a C K :=
  quiet_val _ (fun w hw => by unfold execOp; simp only [ho, hx, Sem.run_bind, Sem.run_pure, Result.andThen_ok, loadLI w b k v (hr w hw)]) h
theorem quiet_ixI (x y : Operand) {g f n cap j : Nat} (ho : o.op = .indexAddr 44 x y) (hx : a.eval x = .slice (some ⟨g, f, none⟩) n cap) (hy : a.eval y = .int .i64 (j : Int)) (hj : j < n)
    (h : K (a.put o.dst (.pointer (some ⟨g, f + j, none⟩)))) : o.quiet Try.prog a C K :=
  quiet_val _ (fun w hw => by unfold execOp; simp only [ho, hx, hy, Sem.run_bind, Sem.run_pure, Result.andThen_ok, ixI w rfl hj]) h
theorem quiet_ixP (x y : Operand) {g f n cap j : Nat} (ho : o.op = .indexAddr 40 x y) (hx : a.eval x = .slice (some ⟨g, f, none⟩) n cap) (hy : a.eval y = .int .i64 (j : Int)) (hj : j < n)
    (h : K (a.put o.dst (.pointer (some ⟨g, f + j, none⟩)))) : o.quiet Try.prog a C K :=
  quiet_val _ (fun w hw => by unfold execOp; simp only [ho, hx, hy, Sem.run_bind, Sem.run_pure, Result.andThen_ok, ixP w rfl hj]) h
end

end Go.Proofs.Ytdfdkddjkhcgdai

/- Whether a plan may be, as the program tells it. -/
namespace Go.Proofs.Ytdfdkddjkhcgdai
open Go.RowKit

/-- may a plan of a snapshot be? -/
def fsb (s : Sn) (p : List (List Int)) : Bool := rgt s && decide (p.length = s.cs.length) && PM.feas (msk s) p
theorem RI.base {w W : World} {v : Value} {l : List Int} (h : RI (fun g => g < w.heap.size) W v l) (hb : Below w.heap.size w W) : RI (fun g => g < w.heap.size) w v l := by
  obtain ⟨a, cap, rfl, hc, hn, h⟩ := h
  refine ⟨a, cap, rfl, hc, hn, ?_⟩
  rcases h with h | ⟨g, o, rfl, hd, _, h⟩
  · exact .inl h
  · exact .inr ⟨g, o, rfl, hd, hd, fun i y hy => (hb.cell (p := ⟨g, o + i, none⟩) hd).symm.trans (h i y hy)⟩
/-- what is left of the look: R is the whole's outcome -/
def Lf (R : Option (List Bool)) (ms : List Nat) (k : Nat) (st : List Bool) (l : List Int) (p : List (List Int)) : Prop := R = (PM.run1 ms k st l).bind fun st' => PM.runs ms (k + 1) st' p
theorem Lf.no {R : Option (List Bool)} {ms : List Nat} {k : Nat} {st : List Bool} {x : Int} {l : List Int} {p : List (List Int)} (h : Lf R ms k st (x :: l) p) (hx : ¬ (PM.okx ms k x = true ∧ st[x.toNat]? = some false)) : R = none := by
  unfold Lf at h
  rw [h, PM.run1, if_neg hx]; rfl
theorem Lf.yes {R : Option (List Bool)} {ms : List Nat} {k : Nat} {st : List Bool} {x : Int} {l : List Int} {p : List (List Int)} (h : Lf R ms k st (x :: l) p) (hx : PM.okx ms k x = true ∧ st[x.toNat]? = some false) : Lf R ms k (st.set x.toNat true) l p := by
  unfold Lf at h ⊢
  rw [h, PM.run1, if_pos hx]
theorem drop_cons {α : Type} {l : List α} {k : Nat} {x : α} (h : l[k]? = some x) : l.drop k = x :: l.drop (k + 1) := by
  obtain ⟨hk, rfl⟩ := List.getElem?_eq_some_iff.1 h
  exact List.drop_eq_getElem_cons hk
theorem feas_none {ms : List Nat} {p : List (List Int)} (h : PM.runs ms 0 (List.replicate ms.length false) p = none) : PM.feas ms p = false := by unfold PM.feas; rw [h]; rfl
theorem feas_some {ms : List Nat} {p : List (List Int)} {st : List Bool} (h : PM.runs ms 0 (List.replicate ms.length false) p = some st) : PM.feas ms p = st.all id := by unfold PM.feas; rw [h]; rfl

end Go.Proofs.Ytdfdkddjkhcgdai

/- Each want's time, and the cost, as the document tells them. -/
namespace Go.Proofs.Ytdfdkddjkhcgdai
open Go.RowKit

namespace RM
variable {s : St} {ws : List (Int × Int)}
theorem pr1_get {r : Int × Int} {l : List Int} {j : Nat} {x : Int} (h : l[j]? = some x) : (pr1 s ws r l)[j]? = some (x, ar s (go s (bg r) ((l.take j).map (wf ws))) (wf ws x)) := by
  have h4 : (l.map (wf ws))[j]? = some (wf ws x) := by rw [List.getElem?_map, h]; rfl
  have h5 := tm_get (s := s) (a := bg r) h4
  rw [← List.map_take] at h5
  unfold pr1
  rw [List.getElem?_zip_eq_some]
  exact ⟨h, h5⟩
theorem pr1_length (r : Int × Int) (l : List Int) : (pr1 s ws r l).length = l.length := by
  unfold pr1
  rw [List.length_zip, tm_length, List.length_map, Nat.min_self]
theorem prs_snoc : ∀ {k : Nat} {cs : List (Int × Int)} {p : List (List Int)} {r : Int × Int} {l : List Int}, cs[k]? = some r → p[k]? = some l → prs s ws (cs.take (k + 1)) (p.take (k + 1)) = prs s ws (cs.take k) (p.take k) ++ pr1 s ws r l
  | _, [], _, _, _, h, _ => by simp at h
  | _, _ :: _, [], _, _, _, h => by simp at h
  | 0, r0 :: cs, l0 :: p, r, l, h1, h2 => by
    simp at h1 h2
    subst h1 h2
    simp [prs]
  | k + 1, r0 :: cs, l0 :: p, r, l, h1, h2 => by
    have := prs_snoc (k := k) (cs := cs) (p := p) (r := r) (l := l) (by simpa using h1) (by simpa using h2)
    rw [List.take_succ_cons, List.take_succ_cons, List.take_succ_cons, List.take_succ_cons]
    show pr1 s ws r0 l0 ++ prs s ws (cs.take (k + 1)) (p.take (k + 1)) = (pr1 s ws r0 l0 ++ prs s ws (cs.take k) (p.take k)) ++ pr1 s ws r l
    rw [this, List.append_assoc]
/-- what is written behind k lists, and j wants of the next one -/
def wto (s : St) (ws cs : List (Int × Int)) (p : List (List Int)) (r : Int × Int) (l : List Int) (k j : Nat) : List Int := put (List.replicate ws.length 0) (prs s ws (cs.take k) (p.take k) ++ (pr1 s ws r l).take j)
def wtk (s : St) (ws cs : List (Int × Int)) (p : List (List Int)) (k : Nat) : List Int := put (List.replicate ws.length 0) (prs s ws (cs.take k) (p.take k))
variable {cs : List (Int × Int)} {p : List (List Int)}
theorem wto_zero (r : Int × Int) (l : List Int) (k : Nat) : wto s ws cs p r l k 0 = wtk s ws cs p k := by unfold wto wtk; rw [List.take_zero, List.append_nil]
theorem wto_succ {r : Int × Int} {l : List Int} {k j : Nat} {x : Int} (h : l[j]? = some x) : wto s ws cs p r l k (j + 1) = (wto s ws cs p r l k j).set x.toNat (ar s (go s (bg r) ((l.take j).map (wf ws))) (wf ws x)) := by
  unfold wto
  rw [take_snoc (pr1_get h), ← List.append_assoc, put_append _ [_]]
  rfl
theorem wto_end {r : Int × Int} {l : List Int} {k : Nat} (h1 : cs[k]? = some r) (h2 : p[k]? = some l) : wto s ws cs p r l k l.length = wtk s ws cs p (k + 1) := by
  unfold wto wtk
  rw [prs_snoc h1 h2, List.take_of_length_le (l := pr1 s ws r l) (by rw [pr1_length]; exact Nat.le_refl _)]
theorem wtk_zero : wtk s ws cs p 0 = List.replicate ws.length 0 := by unfold wtk; simp [prs, put]
theorem wtk_end {k : Nat} (h1 : cs.length ≤ k) (h2 : p.length ≤ k) : wtk s ws cs p k = wts s ws cs p := by
  unfold wtk wts
  rw [List.take_of_length_le h1, List.take_of_length_le h2]
theorem wto_length (r : Int × Int) (l : List Int) (k j : Nat) : (wto s ws cs p r l k j).length = ws.length := by unfold wto; rw [put_length, List.length_replicate]
end RM

/-- what holds while times are written -/
structure Wq (w W : World) (cb : Nat) (s : Sn) (D : Nat → Prop) (vc vw vp : Value) (p : List (List Int)) (o : List Int) : Prop where
  nb : NB W w.heap.size s.st vc vw
  ow : OI W (w.heap.size + 1) (.slice (some ⟨cb, 0, none⟩) s.ws.length s.ws.length) o
  rp : RL D W vp p
  rc : R2 D W vc s.cs
  rw : R2 D W vw s.ws
  dl : ∀ g, D g → g < w.heap.size
  bel : Below w.heap.size w W
section
variable {w W W' : World} {cb : Nat} {s : Sn} {D : Nat → Prop} {vc vw vp : Value} {p : List (List Int)} {o : List Int}
theorem Wq.next (h : Wq w W cb s D vc vw vp p o) (hb : Below W.heap.size W W') : Wq w W' cb s D vc vw vp p o :=
  ⟨h.nb.below' hb, h.ow.keep fun g hg => hb.block g (h.ow.lt g hg).2, h.rp.below' hb, h.rc.below' hb, h.rw.below' hb, h.dl, below_class h.bel hb⟩
theorem Wq.put (h : Wq w W cb s D vc vw vp p o) (i : Nat) (x : Int) : Wq w (W.setCell ⟨cb, i, none⟩ (.int .i64 x)) cb s D vc vw vp p (o.set i x) := by
  have hl := (h.ow.lt cb rfl).1
  have keep : ∀ k, k ≠ cb → (W.setCell ⟨cb, i, none⟩ (.int .i64 x)).heap[k]? = W.heap[k]? := fun k hk => Below.heap_setCell W ⟨cb, i, none⟩ _ k hk
  have kd : ∀ g, D g → g < W.heap.size → (W.setCell ⟨cb, i, none⟩ (.int .i64 x)).heap[g]? = W.heap[g]? := fun g hg _ => keep g (by have := h.dl g hg; omega)
  have hs : W.heap.size ≤ (W.setCell ⟨cb, i, none⟩ (.int .i64 x)).heap.size := by simp [World.setCell]
  exact ⟨(keep _ (by omega)).trans h.nb, h.ow.put i x, h.rp.keep hs kd, h.rc.keep hs kd, h.rw.keep hs kd, h.dl, h.bel.setCell (p := ⟨cb, i, none⟩) (by show _ ≤ cb; omega) _⟩
end
theorem ic_rep (n : Nat) : ic (List.replicate n 0) = List.replicate n (Value.int .i64 0) := by unfold ic; rw [List.map_replicate]

theorem cell_lt {W : World} {g o : Nat} {v : Value} (h : W.cell? ⟨g, o, none⟩ = some v) : g < W.heap.size := by
  obtain ⟨ob, ho, _⟩ := cells_of_cell h
  exact (Array.getElem?_eq_some_iff.1 ho).1
end Go.Proofs.Ytdfdkddjkhcgdai

/- The cost, as the document tells it; whether two lists are one. -/
namespace Go.Proofs.Ytdfdkddjkhcgdai
open Go.RowKit

namespace RM
theorem put_mem {t : Int} : ∀ {q : List (Int × Int)} {o : List Int}, t ∈ put o q → t ∈ o ∨ ∃ x ∈ q, x.2 = t
  | [], _, h => .inl h
  | x :: q, o, h => by
    rcases put_mem (q := q) (o := o.set x.1.toNat x.2) h with h | ⟨y, hy, e⟩
    · rcases List.mem_or_eq_of_mem_set h with h | h
      · exact .inl h
      · exact .inr ⟨x, by simp, h.symm⟩
    · exact .inr ⟨y, by simp [hy], e⟩
theorem prs_bd {s : St} {ws cs : List (Int × Int)} {p : List (List Int)} (z : Rz s ws cs) (hp : ∀ x ∈ p.flatten, 0 ≤ x ∧ x < ws.length) (hc : ∀ r ∈ cs, r.2 ≤ 1000000) (hl : ∀ l ∈ p, l.length ≤ 1000) : ∀ x ∈ prs s ws cs p, 0 ≤ x.2 ∧ x.2 ≤ 80000000 := fun x hx => by
  obtain ⟨w, t⟩ := x
  obtain ⟨c, i, r, l, h1, h2, h3, h4⟩ := prs_where hx
  have hall : ∀ x ∈ l, 0 ≤ x ∧ x < ws.length := fun x hx => hp x (List.mem_flatten.2 ⟨l, List.mem_of_getElem? h2, hx⟩)
  have hin := z.inn (l := l.take i) fun x hx => hall x (List.mem_of_mem_take hx)
  have ok0 := z.cr r (List.mem_of_getElem? h1)
  have ok := go_ok z.rt ok0 hin
  have g1 := ar_nn z.rt ok (wf ws w)
  have g2 := ar_le z.rt ok (wf ws w)
  have g3 := go_le z.rt ok0 hin
  have g4 := hc r (List.mem_of_getElem? h1)
  have g5 := hl l (List.mem_of_getElem? h2)
  have g6 := (List.getElem?_eq_some_iff.1 h3).1
  rw [List.length_map, List.length_take] at g3
  have g7 : (bg r).le = r.2 := rfl
  show 0 ≤ t ∧ t ≤ _
  omega
theorem wts_bd {s : St} {ws cs : List (Int × Int)} {p : List (List Int)} (z : Rz s ws cs) (hp : ∀ x ∈ p.flatten, 0 ≤ x ∧ x < ws.length) (hc : ∀ r ∈ cs, r.2 ≤ 1000000) (hl : ∀ l ∈ p, l.length ≤ 1000) : ∀ t ∈ wts s ws cs p, 0 ≤ t ∧ t ≤ 80000000 := fun t ht => by
  rcases put_mem ht with h | ⟨x, hx, e⟩
  · rw [List.mem_replicate] at h; omega
  · rw [← e]; exact prs_bd z hp hc hl x hx
theorem sum_bd {B : Int} : ∀ {l : List Int}, (∀ t ∈ l, 0 ≤ t ∧ t ≤ B) → 0 ≤ l.sum ∧ l.sum ≤ B * (l.length : Int)
  | [], _ => by simp
  | a :: l, h => by
    have h1 := h a (by simp)
    have h2 := sum_bd (l := l) fun t ht => h t (by simp [ht])
    rw [List.sum_cons, List.length_cons, Int.natCast_add, Int.mul_add]
    omega
end RM
/-- what is known of a plan that may be -/
structure Fs (s : Sn) (p : List (List Int)) : Prop where
  rg : rgt s = true
  rz : RM.Rz s.st s.ws s.cs
  fz : PM.Fz (msk s) p
  pc : s.cs.length = p.length
  ml : (msk s).length = s.ws.length
  wl : s.ws.length ≤ 128
  p1 : 1 ≤ p.length
  p8 : p.length ≤ 8
  fr : ∀ x ∈ p.flatten, 0 ≤ x ∧ x < s.ws.length
  af : ∀ r ∈ s.cs, r.2 ≤ 1000000
theorem fsb_fs {s : Sn} {p : List (List Int)} (hf : fsb s p = true) : Fs s p := by
  have hf3 : rgt s = true ∧ p.length = s.cs.length ∧ PM.feas (msk s) p = true := by unfold fsb at hf; simp [Bool.and_eq_true] at hf; exact ⟨hf.1.1, hf.1.2, hf.2⟩
  obtain ⟨n, hrs⟩ := rgt_rs hf3.1
  have h1 := hrs.cl
  have h2 := hrs.n8
  have h3 := hrs.n1
  have h4 := hf3.2.1
  refine ⟨hf3.1, rgt_rz hf3.1, PM.feas_iff.1 hf3.2.2, hf3.2.1.symm, hrs.mm.len, hrs.wl, by omega, by omega, fun x hx => ?_, rgt_after hf3.1⟩
  have := RM.fz_range (PM.feas_iff.1 hf3.2.2) x hx
  rw [show (msk s).length = s.ws.length from hrs.mm.len] at this
  exact this
/-- what a plan costs -/
theorem Fs.sum {s : Sn} {p : List (List Int)} (h : Fs s p) : (RM.wts s.st s.ws s.cs p).sum = RM.cst s.st s.ws s.cs p := RM.wts_sum h.fz h.ml h.pc
theorem Fs.bd {s : Sn} {p : List (List Int)} (h : Fs s p) (hl : ∀ l ∈ p, l.length ≤ 1000) : ∀ t ∈ RM.wts s.st s.ws s.cs p, 0 ≤ t ∧ t ≤ 80000000 := RM.wts_bd h.rz h.fr h.af hl
theorem Fs.cost {s : Sn} {p : List (List Int)} (h : Fs s p) (hl : ∀ l ∈ p, l.length ≤ 1000) : 0 ≤ RM.cst s.st s.ws s.cs p ∧ RM.cst s.st s.ws s.cs p ≤ 10240000000 := by
  have h1 := RM.sum_bd (h.bd hl)
  rw [h.sum, RM.wts_length] at h1
  have := h.wl
  omega

end Go.Proofs.Ytdfdkddjkhcgdai
