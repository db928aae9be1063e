/- What the law FloorsBoth keeps in its own variables; the plain facts that it ends in. -/
import Derived.Test.YtklekpkchpnmiaaFloorsSpeaks
namespace Go.Proofs.Ytklekpkchpnmiaa
open Go.RowKit Go.Shelf

theorem Boxed.below {B N : Nat} {t : TypeId} {v : Value} {W W' : World} (h : Boxed W N t v) (hb : Below B W W') (hN : N < B) : Boxed W' N t v := (hb.block N hN).trans h

/-- the law's own variables: where they lie, and what they hold -/
def Bx (W : World) (N M : Nat) (f : Int) (s sn : Nat) (n up dn : Int) : Prop :=
  Boxed W N 3 (.int .i64 f) ∧ Boxed W (N + 1) 4 (.bool false) ∧ Boxed W M 33 (.int .u64 s) ∧ Boxed W (M + 1) 33 (.int .u64 sn) ∧ Boxed W (M + 1 + 1) 3 (.int .i64 n) ∧ Boxed W (M + 1 + 1 + 1) 3 (.int .i64 up) ∧ Boxed W (M + 1 + 1 + 1 + 1) 3 (.int .i64 dn)
theorem bx_own {β : Type} (N M : Nat) (f : Int) (s : Nat) (sn : β → Nat) (n up dn : β → Int) : Own (fun (p : β) W => Bx W N M f s (sn p) (n p) (up p) (dn p)) :=
  fun p A B row hs hg hr => ⟨boxed_own N 3 (fun _ : β => .int .i64 f) p A B row hs.1 hg hr, boxed_own (N + 1) 4 (fun _ : β => .bool false) p A B row hs.2.1 hg hr, boxed_own M 33 (fun _ : β => .int .u64 s) p A B row hs.2.2.1 hg hr,
    boxed_own (M + 1) 33 (fun p : β => .int .u64 (sn p)) p A B row hs.2.2.2.1 hg hr, boxed_own (M + 1 + 1) 3 (fun p : β => .int .i64 (n p)) p A B row hs.2.2.2.2.1 hg hr, boxed_own (M + 1 + 1 + 1) 3 (fun p : β => .int .i64 (up p)) p A B row hs.2.2.2.2.2.1 hg hr, boxed_own (M + 1 + 1 + 1 + 1) 3 (fun p : β => .int .i64 (dn p)) p A B row hs.2.2.2.2.2.2 hg hr⟩
theorem bx_start {W2 : World} {N : Nat} {f : Int} {s : Nat} (h0 : Boxed W2 N 3 (.int .i64 f)) (h1 : Boxed W2 (N + 1) 4 (.bool false)) :
    Bx (((((((W2.alloc (.cells #[.int .u64 s] 33)).alloc (.cells #[.int .u64 0] 33)).alloc (.cells #[.int .i64 0] 3)).alloc (.cells #[.int .i64 (-1)] 3)).alloc (.cells #[.int .i64 (-1)] 3)).alloc (.cells #[.int .u64 s] 33)).alloc (.cells #[.int .i64 f] 3)) N W2.heap.size f s 0 0 (-1) (-1) := by
  have n0 := Boxed.new W2 33 (.int .u64 s)
  have n1 := Boxed.new (W2.alloc (.cells #[.int .u64 s] 33)) 33 (.int .u64 0)
  have n2 := Boxed.new ((W2.alloc (.cells #[.int .u64 s] 33)).alloc (.cells #[.int .u64 0] 33)) 3 (.int .i64 0)
  have n3 := Boxed.new (((W2.alloc (.cells #[.int .u64 s] 33)).alloc (.cells #[.int .u64 0] 33)).alloc (.cells #[.int .i64 0] 3)) 3 (.int .i64 (-1))
  have n4 := Boxed.new ((((W2.alloc (.cells #[.int .u64 s] 33)).alloc (.cells #[.int .u64 0] 33)).alloc (.cells #[.int .i64 0] 3)).alloc (.cells #[.int .i64 (-1)] 3)) 3 (.int .i64 (-1))
  simp only [World.size_alloc] at n1 n2 n3 n4
  exact ⟨((((((h0.alloc _).alloc _).alloc _).alloc _).alloc _).alloc _).alloc _, ((((((h1.alloc _).alloc _).alloc _).alloc _).alloc _).alloc _).alloc _, (((((n0.alloc _).alloc _).alloc _).alloc _).alloc _).alloc _, ((((n1.alloc _).alloc _).alloc _).alloc _).alloc _, (((n2.alloc _).alloc _).alloc _).alloc _, ((n3.alloc _).alloc _).alloc _, (n4.alloc _).alloc _⟩
theorem Bx.alloc {W : World} {N M : Nat} {f : Int} {s sn : Nat} {n up dn : Int} (h : Bx W N M f s sn n up dn) (o : Obj) : Bx (W.alloc o) N M f s sn n up dn :=
  ⟨h.1.alloc o, h.2.1.alloc o, h.2.2.1.alloc o, h.2.2.2.1.alloc o, h.2.2.2.2.1.alloc o, h.2.2.2.2.2.1.alloc o, h.2.2.2.2.2.2.alloc o⟩
theorem Bx.setSeen {W : World} {N M : Nat} {f : Int} {s sn : Nat} {n up dn : Int} (h : Bx W N M f s sn n up dn) (hN : N + 1 < M) (x : Nat) : Bx (W.setCell ⟨M + 1, 0, none⟩ (.int .u64 x)) N M f s x n up dn :=
  ⟨h.1.other (by omega) _, h.2.1.other (by omega) _, h.2.2.1.other (by omega) _, h.2.2.2.1.set _, h.2.2.2.2.1.other (by omega) _, h.2.2.2.2.2.1.other (by omega) _, h.2.2.2.2.2.2.other (by omega) _⟩
theorem Bx.setN {W : World} {N M : Nat} {f : Int} {s sn : Nat} {n up dn : Int} (h : Bx W N M f s sn n up dn) (hN : N + 1 < M) (x : Int) : Bx (W.setCell ⟨M + 1 + 1, 0, none⟩ (.int .i64 x)) N M f s sn x up dn :=
  ⟨h.1.other (by omega) _, h.2.1.other (by omega) _, h.2.2.1.other (by omega) _, h.2.2.2.1.other (by omega) _, h.2.2.2.2.1.set _, h.2.2.2.2.2.1.other (by omega) _, h.2.2.2.2.2.2.other (by omega) _⟩
theorem Bx.setUp {W : World} {N M : Nat} {f : Int} {s sn : Nat} {n up dn : Int} (h : Bx W N M f s sn n up dn) (hN : N + 1 < M) (x : Int) : Bx (W.setCell ⟨M + 1 + 1 + 1, 0, none⟩ (.int .i64 x)) N M f s sn n x dn :=
  ⟨h.1.other (by omega) _, h.2.1.other (by omega) _, h.2.2.1.other (by omega) _, h.2.2.2.1.other (by omega) _, h.2.2.2.2.1.other (by omega) _, h.2.2.2.2.2.1.set _, h.2.2.2.2.2.2.other (by omega) _⟩
theorem Bx.setDn {W : World} {N M : Nat} {f : Int} {s sn : Nat} {n up dn : Int} (h : Bx W N M f s sn n up dn) (hN : N + 1 < M) (x : Int) : Bx (W.setCell ⟨M + 1 + 1 + 1 + 1, 0, none⟩ (.int .i64 x)) N M f s sn n up x :=
  ⟨h.1.other (by omega) _, h.2.1.other (by omega) _, h.2.2.1.other (by omega) _, h.2.2.2.1.other (by omega) _, h.2.2.2.2.1.other (by omega) _, h.2.2.2.2.2.1.other (by omega) _, h.2.2.2.2.2.2.set _⟩
theorem Bx.below {W W' : World} {N M : Nat} {f : Int} {s sn : Nat} {n up dn : Int} (h : Bx W N M f s sn n up dn) (hb : Below W.heap.size W W') : Bx W' N M f s sn n up dn :=
  ⟨Boxed.below h.1 hb h.1.lt, Boxed.below h.2.1 hb h.2.1.lt, Boxed.below h.2.2.1 hb h.2.2.1.lt, Boxed.below h.2.2.2.1 hb h.2.2.2.1.lt, Boxed.below h.2.2.2.2.1 hb h.2.2.2.2.1.lt, Boxed.below h.2.2.2.2.2.1 hb h.2.2.2.2.2.1.lt, Boxed.below h.2.2.2.2.2.2 hb h.2.2.2.2.2.2.lt⟩

/-- what has been seen -/
def seenN (l : List Nat) : Nat := ofN (l.map fun x : Nat => (x : Int))
theorem seenN_snoc (l : List Nat) (x : Nat) : seenN (l ++ [x]) = FM.withN (seenN l) (x : Int) := by
  unfold seenN; rw [List.map_append, List.map_cons, List.map_nil, ofN_snoc]
theorem seenN_lt (l : List Nat) : seenN l < 18446744073709551616 := ofN_lt _
theorem seenN_bit (l : List Nat) (i : Nat) (hi : i < 64) : (seenN l).testBit i = l.contains i := by
  unfold seenN
  rw [ofN_bit _ i hi, Bool.eq_iff_iff]
  simp only [List.contains_iff_mem, List.mem_map]
  constructor
  · rintro ⟨x, hx, e⟩
    obtain rfl : x = i := by omega
    exact hx
  · intro h; exact ⟨i, h, rfl⟩
theorem seenN_has (l : List Nat) (x : Nat) : FM.hasN (seenN l) (x : Int) = true ↔ x < 64 ∧ x ∈ l := by
  by_cases hx : x < 64
  · rw [FM.hasN_nat _ x hx, seenN_bit l x hx]; simp [hx]
  · unfold FM.hasN; simp; omega
theorem hasN_iff (s x : Nat) : FM.hasN s (x : Int) = true ↔ x < 64 ∧ s.testBit x = true := by
  by_cases hx : x < 64
  · rw [FM.hasN_nat _ x hx]; simp [hx]
  · unfold FM.hasN; simp; omega

/-- the first of a list, or -1 -/
def headI (l : List Nat) : Int := match l.head? with | none => -1 | some x => (x : Int)
theorem headI_cons (x : Nat) (l : List Nat) : headI (x :: l) = (x : Int) := rfl
theorem headI_snoc (x y : Nat) (l : List Nat) : headI ((x :: l) ++ [y]) = headI (x :: l) := rfl

theorem keepC_set {b b' : Nat} (W : World) (h : b ≠ b') (v : Value) : KeepC b W (W.setCell ⟨b', 0, none⟩ v) :=
  World.cell?_of_block (w := W) (Below.heap_setCell W ⟨b', 0, none⟩ v b h)
theorem bx_step {W : World} {N M : Nat} {f : Int} {s x : Nat} {pre : List Nat} {n' up' dn : Int} (h : Bx W N M f s (FM.withN (seenN pre) (x : Int)) n' up' dn) (hn : n' = ((pre ++ [x]).length : Nat)) (hu : up' = headI (pre ++ [x])) :
    Bx W N M f s (seenN (pre ++ [x])) ((pre ++ [x]).length : Nat) (headI (pre ++ [x])) dn := by
  rw [seenN_snoc, ← hn, ← hu]; exact h
theorem seenN_app (U l : List Nat) (x : Nat) : seenN (U ++ (l ++ [x])) = FM.withN (seenN (U ++ l)) (x : Int) := by
  rw [← List.append_assoc, seenN_snoc]
theorem bx_step2 {W : World} {N M : Nat} {f : Int} {s x : Nat} {U pre : List Nat} {n' up dn' : Int} (h : Bx W N M f s (FM.withN (seenN (U ++ pre)) (x : Int)) n' up dn') (hn : n' = (U.length : Int) + ((pre ++ [x]).length : Nat)) (hu : dn' = headI (pre ++ [x])) :
    Bx W N M f s (seenN (U ++ (pre ++ [x]))) ((U.length : Int) + ((pre ++ [x]).length : Nat)) up (headI (pre ++ [x])) := by
  rw [seenN_app, ← hn, ← hu]; exact h
theorem ownFrom_mark {β : Type} {B D : Nat} (hD : D < B) (o : Obj) (sz : ∀ W : World, W.heap[D]? = some o → D < W.heap.size) : OwnFrom B (fun (_ : β) W => W.heap[D]? = some o) :=
  fun _ A _ row hs hg hr => (hg.block D (sz A hs) (fun e => by have := (hr D e.symm).1; omega)).trans hs
theorem mark_lt {W : World} {D : Nat} {o : Obj} (h : W.heap[D]? = some o) : D < W.heap.size := (Array.getElem?_eq_some_iff.1 h).1
/-- floors of the set within bounds, each once -/
def Good (s : Nat) (lo hi : Int) (l : List Nat) : Prop := (∀ x ∈ l, x < 64 ∧ s.testBit x = true ∧ lo ≤ (x : Int) ∧ (x : Int) < hi) ∧ l.Nodup
theorem good_nil (s : Nat) (lo hi : Int) : Good s lo hi [] := ⟨by simp, List.nodup_nil⟩
theorem good_snoc {s : Nat} {lo hi : Int} {l : List Nat} {x : Nat} (h : Good s lo hi l) (h1 : ¬ (x < 64 ∧ x ∈ l)) (h2 : x < 64 ∧ s.testBit x = true) (h3 : lo ≤ (x : Int)) (h4 : (x : Int) < hi) : Good s lo hi (l ++ [x]) := by
  refine ⟨?_, ?_⟩
  · intro y hy
    rcases List.mem_append.1 hy with h' | h'
    · exact h.1 y h'
    · simp at h'; subst h'; exact ⟨h2.1, h2.2, h3, h4⟩
  · rw [List.nodup_append]
    refine ⟨h.2, by simp, ?_⟩
    intro a ha b hb
    simp at hb; subst hb
    intro e; subst e
    exact h1 ⟨h2.1, ha⟩
theorem bad_seen {s : Nat} {lo hi : Int} {l : List Nat} {x : Nat} (h : x < 64 ∧ x ∈ l) : ¬ Good s lo hi (l ++ [x]) := fun g => by
  have := g.2
  rw [List.nodup_append] at this
  exact this.2.2 x h.2 x (by simp) rfl
theorem bad_has {s : Nat} {lo hi : Int} {l : List Nat} {x : Nat} (h : ¬ (x < 64 ∧ s.testBit x = true)) : ¬ Good s lo hi (l ++ [x]) := fun g => by
  have := g.1 x (by simp)
  exact h ⟨this.1, this.2.1⟩
theorem bad_lo {s : Nat} {lo hi : Int} {l : List Nat} {x : Nat} (h : (x : Int) < lo) : ¬ Good s lo hi (l ++ [x]) := fun g => by
  have := g.1 x (by simp)
  omega
theorem bad_hi {s : Nat} {lo hi : Int} {l : List Nat} {x : Nat} (h : hi ≤ (x : Int)) : ¬ Good s lo hi (l ++ [x]) := fun g => by
  have := g.1 x (by simp)
  omega
theorem seg_nodup (s a b : Nat) : (FM.seg s a b).Nodup := by unfold FM.seg; exact List.nodup_range.filter _
theorem nodup_rev {l : List Nat} (h : l.Nodup) : l.reverse.Nodup := by
  unfold List.Nodup at h ⊢
  rw [List.pairwise_reverse]
  exact h.imp fun hab => fun e => hab e.symm
theorem good_up {s : Nat} {f : Int} {pre : List Nat} (h : pre <+: FM.upL s f) : Good s f 64 pre := by
  refine ⟨?_, h.sublist.nodup (seg_nodup _ _ _)⟩
  intro x hx
  have := h.subset hx
  unfold FM.upL at this
  rw [FM.seg_mem] at this
  exact ⟨this.1, this.2.2, by omega, by omega⟩
theorem good_down {s : Nat} {f : Int} {pre : List Nat} (h : pre <+: FM.downL s (f - 1)) (hf : f ≤ 63) : Good s 0 f pre := by
  refine ⟨?_, h.sublist.nodup (nodup_rev (seg_nodup _ _ _))⟩
  intro x hx
  have := h.subset hx
  unfold FM.downL at this
  rw [List.mem_reverse, FM.seg_mem, if_pos (by omega)] at this
  exact ⟨by omega, this.2.2, by omega, by omega⟩

theorem bad_both {s : Nat} {f : Int} {U l : List Nat} {x : Nat} (hU : Good s f 64 U) (h : x < 64 ∧ x ∈ U ++ l) : ¬ Good s 0 f (l ++ [x]) := by
  rcases List.mem_append.1 h.2 with h' | h'
  · exact bad_hi (hU.1 x h').2.2.1
  · exact bad_seen ⟨h.1, h'⟩
/-- the plain facts in which the law ends -/
theorem seg_app (s a b : Nat) (h : a ≤ b) : FM.seg s 0 a ++ FM.seg s a b = FM.seg s 0 b := by
  induction b with
  | zero => obtain rfl : a = 0 := by omega
            rfl
  | succ b ih =>
    by_cases ha : a = b + 1
    · subst ha; rw [FM.seg_self s (b + 1) (b + 1) (Nat.le_refl _)]; simp
    · rw [FM.seg_succ s a b, FM.seg_succ s 0 b, ← ih (by omega), List.append_assoc]
      rw [show decide (a ≤ b) = true by simp; omega, show decide (0 ≤ b) = true by simp]
theorem down_eq (s : Nat) (f : Int) (h0 : 0 ≤ f) (h1 : f ≤ 63) : FM.downL s (f - 1) = (FM.seg s 0 f.toNat).reverse := by
  unfold FM.downL; rw [if_pos (by omega), show (f - 1 + 1).toNat = f.toNat by omega]
theorem both_seen (s : Nat) (f : Int) (hs : s < 18446744073709551616) (h0 : 0 ≤ f) (h1 : f ≤ 63) : seenN (FM.upL s f ++ FM.downL s (f - 1)) = s := by
  apply FM.eq_of_bits (seenN_lt _) hs
  intro i hi
  rw [seenN_bit _ i hi, Bool.eq_iff_iff, List.contains_iff_mem, List.mem_append, down_eq s f h0 h1, List.mem_reverse]
  unfold FM.upL
  rw [FM.seg_mem, FM.seg_mem]
  by_cases h : i < f.toNat
  · constructor
    · rintro (⟨_, h2, _⟩ | ⟨_, _, h3⟩)
      · omega
      · exact h3
    · intro h3; exact .inr ⟨h, Nat.zero_le _, h3⟩
  · constructor
    · rintro (⟨_, _, h3⟩ | ⟨h2, _⟩)
      · exact h3
      · omega
    · intro h3; exact .inl ⟨hi, by omega, h3⟩
theorem both_len (s : Nat) (f : Int) (h0 : 0 ≤ f) (h1 : f ≤ 63) : (FM.upL s f).length + (FM.downL s (f - 1)).length = FM.cnt s 64 := by
  rw [down_eq s f h0 h1, List.length_reverse, FM.cnt_seg, ← seg_app s f.toNat 64 (by omega), List.length_append]
  unfold FM.upL; omega
theorem down_head_eq (s : Nat) (f : Int) (h0 : 0 ≤ f) (h1 : f ≤ 63) : FM.downL s f = if s.testBit f.toNat = true then f.toNat :: FM.downL s (f - 1) else FM.downL s (f - 1) := by
  rw [down_eq s f h0 h1]
  unfold FM.downL
  rw [if_pos h1, show (f + 1).toNat = f.toNat + 1 by omega]
  cases hb : s.testBit f.toNat
  · rw [FM.seg_no hb]; simp
  · rw [FM.seg_yes (Nat.zero_le _) hb, List.reverse_append]; simp
theorem up_head_eq (s : Nat) (f : Int) (h0 : 0 ≤ f) (h1 : f ≤ 63) (hb : s.testBit f.toNat = true) : (FM.upL s f).head? = some f.toNat := by
  unfold FM.upL; rw [FM.seg_down_yes 64 (by omega) hb]; rfl
theorem both_near (s : Nat) (f : Int) (h0 : 0 ≤ f) (h1 : f ≤ 63) :
    (nearN s f).2 = decide (0 < (FM.upL s f).length + (FM.downL s (f - 1)).length) ∧
      ((nearN s f).2 = true → (((nearN s f).1 : Nat) : Int) = headI (FM.upL s f) ∨ (((nearN s f).1 : Nat) : Int) = headI (FM.downL s (f - 1))) := by
  cases hb : s.testBit f.toNat
  · have e := down_head_eq s f h0 h1
    rw [hb] at e
    simp only [Bool.false_eq_true, if_false] at e
    unfold nearN
    rw [e]
    generalize FM.downL s (f - 1) = V
    generalize FM.upL s f = U
    cases V with
    | nil =>
      cases U with
      | nil => simp
      | cons a U => simp [headI]
    | cons b V =>
      cases U with
      | nil => simp [headI]
      | cons a U =>
        simp only [List.head?_cons]
        by_cases h : (a : Int) - f < f - (b : Int)
        · rw [if_pos h]; simp [headI]; omega
        · rw [if_neg h]; simp [headI]; omega
  · have e := down_head_eq s f h0 h1
    rw [if_pos hb] at e
    have u := up_head_eq s f h0 h1 hb
    unfold nearN
    rw [e, u]
    simp only [List.head?_cons]
    rw [if_neg (by omega)]
    refine ⟨?_, fun _ => .inl ?_⟩
    · cases hU : FM.upL s f with
      | nil => rw [hU] at u; cases u
      | cons a U => simp; omega
    · unfold headI; rw [u]

theorem both_cases (s : Nat) (f : Int) (h0 : 0 ≤ f) (h1 : f ≤ 63) : ∃ a : Nat,
    (nearN s f = (a, false) ∧ decide (0 < ((FM.cnt s 64 : Nat) : Int)) = false) ∨
    (nearN s f = (a, true) ∧ decide (0 < ((FM.cnt s 64 : Nat) : Int)) = true ∧ ((a : Int) == headI (FM.upL s f)) = true) ∨
    (nearN s f = (a, true) ∧ decide (0 < ((FM.cnt s 64 : Nat) : Int)) = true ∧ ((a : Int) == headI (FM.upL s f)) = false ∧ ((a : Int) == headI (FM.downL s (f - 1))) = true) := by
  obtain ⟨e1, e2⟩ := both_near s f h0 h1
  rw [both_len s f h0 h1] at e1
  have e3 : decide (0 < ((FM.cnt s 64 : Nat) : Int)) = decide (0 < FM.cnt s 64) := decide_eq_decide.2 (by omega)
  generalize nearN s f = nr at e1 e2
  obtain ⟨a, b⟩ := nr
  refine ⟨a, ?_⟩
  simp only at e1 e2
  cases b
  · left; exact ⟨rfl, by rw [e3, ← e1]⟩
  · right
    rcases Bool.eq_false_or_eq_true ((a : Int) == headI (FM.upL s f)) with h | h
    · left; exact ⟨rfl, by rw [e3, ← e1], h⟩
    · right
      refine ⟨rfl, by rw [e3, ← e1], h, ?_⟩
      rcases e2 rfl with h' | h'
      · rw [beq_eq_false_iff_ne] at h; exact absurd h' h
      · rw [beq_iff_eq]; exact h'

end Go.Proofs.Ytklekpkchpnmiaa
