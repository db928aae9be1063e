/- Plain mathematics of sets of floors: numbers of 64 bits. No program is named here. -/
namespace Go.Proofs.Ytklekpkchpnmiaa.FM

/-- the set of one floor, empty where the number is no floor -/
def onlyN (f : Int) : Nat := if 0 ≤ f ∧ f < 64 then 2 ^ f.toNat else 0
theorem onlyN_lt (f : Int) : onlyN f < 18446744073709551616 := by
  unfold onlyN; split
  · have h : f.toNat < 64 := by omega
    have := Nat.pow_lt_pow_right (a := 2) (by omega) h
    simpa using this
  · omega
/-- is a floor in a set? -/
def hasN (s : Nat) (f : Int) : Bool := (decide (0 ≤ f) && decide (f < 64)) && s.testBit f.toNat
theorem has_only (s : Nat) (f : Int) : (s &&& onlyN f != 0) = hasN s f := by
  unfold onlyN hasN
  by_cases h : 0 ≤ f ∧ f < 64
  · rw [if_pos h]
    cases hb : s.testBit f.toNat
    · have e : s &&& 2 ^ f.toNat = 0 := by
        apply Nat.eq_of_testBit_eq
        intro i
        rw [Nat.testBit_and, Nat.testBit_two_pow, Nat.zero_testBit]
        by_cases hi : f.toNat = i
        · subst hi; rw [hb]; rfl
        · simp [hi]
      rw [e]; simp
    · have e : s &&& 2 ^ f.toNat ≠ 0 := fun e => by
        have := congrArg (fun n => Nat.testBit n f.toNat) e
        simp [hb] at this
      simp [h.1, h.2, e]
  · rw [if_neg h]
    by_cases h1 : 0 ≤ f
    · have : ¬ f < 64 := fun h2 => h ⟨h1, h2⟩
      simp [this]
    · simp [h1]
theorem hasN_nat (s k : Nat) (h : k < 64) : hasN s (k : Int) = s.testBit k := by
  unfold hasN
  rw [show decide (0 ≤ (k : Int)) = true by simp, show decide ((k : Int) < 64) = true by simp; omega]
  simp
theorem lt_testBit {s i : Nat} (hs : s < 18446744073709551616) (h : 64 ≤ i) : s.testBit i = false :=
  Nat.testBit_lt_two_pow (Nat.lt_of_lt_of_le (show s < 2 ^ 64 by omega) (Nat.pow_le_pow_right (by omega) h))
theorem eq_of_bits {s t : Nat} (hs : s < 18446744073709551616) (ht : t < 18446744073709551616) (h : ∀ i, i < 64 → s.testBit i = t.testBit i) : s = t := by
  apply Nat.eq_of_testBit_eq
  intro i
  by_cases hi : i < 64
  · exact h i hi
  · rw [lt_testBit hs (by omega), lt_testBit ht (by omega)]
theorem only_bit (f : Int) (i : Nat) (hi : i < 64) : (onlyN f).testBit i = decide (f = (i : Int)) := by
  unfold onlyN
  by_cases h : 0 ≤ f ∧ f < 64
  · rw [if_pos h, Nat.testBit_two_pow]
    apply decide_eq_decide.2
    omega
  · rw [if_neg h]
    have : ¬ f = (i : Int) := by omega
    simp [this]
/-- with a floor -/
def withN (s : Nat) (f : Int) : Nat := s ||| onlyN f
theorem withN_lt {s : Nat} (f : Int) (hs : s < 18446744073709551616) : withN s f < 18446744073709551616 := by
  have := Nat.or_lt_two_pow (n := 64) (show s < 2 ^ 64 by omega) (show onlyN f < 2 ^ 64 by have := onlyN_lt f; omega)
  unfold withN; omega
theorem withN_bit (s : Nat) (f : Int) (i : Nat) (hi : i < 64) : (withN s f).testBit i = (s.testBit i || decide (f = (i : Int))) := by
  unfold withN; rw [Nat.testBit_or, only_bit f i hi]
/-- without a floor -/
def lessN (s : Nat) (f : Int) : Nat := s &&& (18446744073709551615 - onlyN f)
theorem lessN_lt {s : Nat} (f : Int) (hs : s < 18446744073709551616) : lessN s f < 18446744073709551616 := by
  unfold lessN; have := Nat.and_le_left (n := s) (m := 18446744073709551615 - onlyN f); omega
theorem lessN_bit (s : Nat) (f : Int) (i : Nat) (hi : i < 64) : (lessN s f).testBit i = (s.testBit i && !decide (f = (i : Int))) := by
  unfold lessN
  have h := onlyN_lt f
  have e : 18446744073709551615 - onlyN f = 2 ^ 64 - (onlyN f + 1) := by omega
  rw [Nat.testBit_and, e, Nat.testBit_two_pow_sub_succ (by omega), only_bit f i hi]
  simp [hi]

/-- the floors of a set in [a, b), rising -/
def seg (s a b : Nat) : List Nat := (List.range b).filter fun i => decide (a ≤ i) && s.testBit i
theorem seg_succ (s a b : Nat) : seg s a (b + 1) = seg s a b ++ (if (decide (a ≤ b) && s.testBit b) = true then [b] else []) := by
  unfold seg; rw [List.range_succ, List.filter_append]
  cases h : (decide (a ≤ b) && s.testBit b)
  · simp [h]
  · simp [h]
theorem seg_yes {s a b : Nat} (h : a ≤ b) (hb : s.testBit b = true) : seg s a (b + 1) = seg s a b ++ [b] := by
  rw [seg_succ, if_pos (by simp [h, hb])]
theorem seg_no {s a b : Nat} (hb : s.testBit b = false) : seg s a (b + 1) = seg s a b := by
  rw [seg_succ, if_neg (by simp [hb])]; simp
theorem seg_self (s a b : Nat) (h : b ≤ a) : seg s a b = [] := by
  unfold seg; rw [List.filter_eq_nil_iff]; intro i hi; simp at hi; simp; omega
theorem seg_mem {s a b i : Nat} : i ∈ seg s a b ↔ i < b ∧ a ≤ i ∧ s.testBit i = true := by
  unfold seg; simp
theorem seg_length (s a b : Nat) : (seg s a b).length ≤ b := by
  unfold seg; have := List.length_filter_le (fun i => decide (a ≤ i) && s.testBit i) (List.range b); simpa using this
theorem seg_down_yes {s k : Nat} (b : Nat) (h : k < b) (hb : s.testBit k = true) : seg s k b = k :: seg s (k + 1) b := by
  induction b with
  | zero => omega
  | succ b ih =>
    by_cases hk : k = b
    · subst hk; rw [seg_yes (Nat.le_refl _) hb, seg_self s k k (Nat.le_refl _), seg_self s (k + 1) (k + 1) (Nat.le_refl _)]; rfl
    · rw [seg_succ s k b, seg_succ s (k + 1) b, ih (by omega)]
      rw [show decide (k ≤ b) = decide (k + 1 ≤ b) from decide_eq_decide.2 (by omega)]; rfl
theorem seg_down_no {s k : Nat} (b : Nat) (hb : s.testBit k = false) : seg s k b = seg s (k + 1) b := by
  unfold seg
  apply List.filter_congr
  intro i _
  by_cases hi : i = k
  · subst hi; simp [hb]
  · rw [show decide (k ≤ i) = decide (k + 1 ≤ i) from decide_eq_decide.2 (by omega)]
theorem seg_prefix (s a : Nat) {k b : Nat} (h : k ≤ b) : seg s a k <+: seg s a b := by
  induction b with
  | zero => obtain rfl : k = 0 := by omega
            exact List.prefix_refl _
  | succ b ih =>
    by_cases hk : k = b + 1
    · subst hk; exact List.prefix_refl _
    · rw [seg_succ]; exact (ih (by omega)).trans (List.prefix_append _ _)
theorem seg_suffix (s b : Nat) {a k : Nat} (h : a ≤ k) : seg s k b <:+ seg s a b := by
  induction k with
  | zero => obtain rfl : a = 0 := by omega
            exact List.suffix_refl _
  | succ k ih =>
    by_cases hk : a = k + 1
    · subst hk; exact List.suffix_refl _
    · have h1 := ih (by omega)
      by_cases hkb : k < b
      · cases hb : s.testBit k
        · rw [← seg_down_no b hb]; exact h1
        · rw [seg_down_yes b hkb hb] at h1; exact (List.suffix_cons _ _).trans h1
      · rw [seg_self s (k + 1) b (by omega)]; exact List.nil_suffix

/-- the floors from one on, rising; falling -/
def upL (s : Nat) (f : Int) : List Nat := seg s f.toNat 64
def downL (s : Nat) (f : Int) : List Nat := (seg s 0 ((if f ≤ 63 then f else 63) + 1).toNat).reverse

/-- how many floors below n -/
def cnt (s : Nat) : Nat → Nat
  | 0 => 0
  | n + 1 => cnt s n + (if s.testBit n = true then 1 else 0)
theorem cnt_seg (s n : Nat) : cnt s n = (seg s 0 n).length := by
  induction n with
  | zero => rfl
  | succ n ih =>
    unfold cnt; rw [ih]
    cases h : s.testBit n
    · rw [seg_no h]; simp
    · rw [seg_yes (Nat.zero_le _) h]; simp
theorem cnt_le (s n : Nat) : cnt s n ≤ n := by rw [cnt_seg]; exact seg_length s 0 n
theorem bit_lo (q b j : Nat) (hb : b < 256) (hj : j < 8) : (256 * q + b).testBit j = b.testBit j := by
  have := Nat.testBit_two_pow_mul_add (i := 8) q (show b < 2 ^ 8 by omega) j
  rw [if_pos hj] at this
  exact this
theorem bit_hi (q b m : Nat) (hb : b < 256) : (256 * q + b).testBit (8 + m) = q.testBit m := by
  have := Nat.testBit_two_pow_mul_add (i := 8) q (show b < 2 ^ 8 by omega) (8 + m)
  rw [if_neg (by omega), show 8 + m - 8 = m by omega] at this
  exact this
theorem cnt_lo (q b j : Nat) (hb : b < 256) (hj : j ≤ 8) : cnt (256 * q + b) j = cnt b j := by
  induction j with
  | zero => rfl
  | succ j ih =>
    show cnt (256 * q + b) j + _ = cnt b j + _
    rw [ih (by omega), bit_lo q b j hb (by omega)]
theorem cnt_split (q b m : Nat) (hb : b < 256) : cnt (256 * q + b) (8 + m) = cnt b 8 + cnt q m := by
  induction m with
  | zero => exact cnt_lo q b 8 hb (Nat.le_refl _)
  | succ m ih =>
    show cnt (256 * q + b) (8 + m) + (if (256 * q + b).testBit (8 + m) = true then 1 else 0) = cnt b 8 + (cnt q m + _)
    rw [ih, bit_hi q b m hb, Nat.add_assoc]

end Go.Proofs.Ytklekpkchpnmiaa.FM
