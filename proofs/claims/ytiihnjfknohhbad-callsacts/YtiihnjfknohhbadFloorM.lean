/- Plain mathematics of sets of floors: numbers of 64 bits. No program is named here. -/
namespace Go.Proofs.Ytiihnjfknohhbad.FM

/-- the set of one floor, empty where the number is no floor -/
def onlyN (f : Int) : Nat := if 0 ≤ f ∧ f < 64 then 2 ^ f.toNat else 0
theorem onlyN_lt (f : Int) : onlyN f < 18446744073709551616 := by
  unfold onlyN; split
  · have h : f.toNat < 64 := by omega
    have := Nat.pow_lt_pow_right (a := 2) (by omega) h
    simpa using this
  · omega
/-- is a floor in a set? -/
def hasN (s : Nat) (f : Int) : Bool := (decide (0 ≤ f) && decide (f < 64)) && s.testBit f.toNat
theorem has_only (s : Nat) (f : Int) : (s &&& onlyN f != 0) = hasN s f := by
  unfold onlyN hasN
  by_cases h : 0 ≤ f ∧ f < 64
  · rw [if_pos h]
    cases hb : s.testBit f.toNat
    · have e : s &&& 2 ^ f.toNat = 0 := by
        apply Nat.eq_of_testBit_eq
        intro i
        rw [Nat.testBit_and, Nat.testBit_two_pow, Nat.zero_testBit]
        by_cases hi : f.toNat = i
        · subst hi; rw [hb]; rfl
        · simp [hi]
      rw [e]; simp
    · have e : s &&& 2 ^ f.toNat ≠ 0 := fun e => by
        have := congrArg (fun n => Nat.testBit n f.toNat) e
        simp [hb] at this
      simp [h.1, h.2, e]
  · rw [if_neg h]
    by_cases h1 : 0 ≤ f
    · have : ¬ f < 64 := fun h2 => h ⟨h1, h2⟩
      simp [this]
    · simp [h1]
theorem hasN_nat (s k : Nat) (h : k < 64) : hasN s (k : Int) = s.testBit k := by
  unfold hasN
  rw [show decide (0 ≤ (k : Int)) = true by simp, show decide ((k : Int) < 64) = true by simp; omega]
  simp
theorem lt_testBit {s i : Nat} (hs : s < 18446744073709551616) (h : 64 ≤ i) : s.testBit i = false :=
  Nat.testBit_lt_two_pow (Nat.lt_of_lt_of_le (show s < 2 ^ 64 by omega) (Nat.pow_le_pow_right (by omega) h))
theorem eq_of_bits {s t : Nat} (hs : s < 18446744073709551616) (ht : t < 18446744073709551616) (h : ∀ i, i < 64 → s.testBit i = t.testBit i) : s = t := by
  apply Nat.eq_of_testBit_eq
  intro i
  by_cases hi : i < 64
  · exact h i hi
  · rw [lt_testBit hs (by omega), lt_testBit ht (by omega)]
theorem only_bit (f : Int) (i : Nat) (hi : i < 64) : (onlyN f).testBit i = decide (f = (i : Int)) := by
  unfold onlyN
  by_cases h : 0 ≤ f ∧ f < 64
  · rw [if_pos h, Nat.testBit_two_pow]
    apply decide_eq_decide.2
    omega
  · rw [if_neg h]
    have : ¬ f = (i : Int) := by omega
    simp [this]
/-- with a floor -/
def withN (s : Nat) (f : Int) : Nat := s ||| onlyN f
theorem withN_lt {s : Nat} (f : Int) (hs : s < 18446744073709551616) : withN s f < 18446744073709551616 := by
  have := Nat.or_lt_two_pow (n := 64) (show s < 2 ^ 64 by omega) (show onlyN f < 2 ^ 64 by have := onlyN_lt f; omega)
  unfold withN; omega
theorem withN_bit (s : Nat) (f : Int) (i : Nat) (hi : i < 64) : (withN s f).testBit i = (s.testBit i || decide (f = (i : Int))) := by
  unfold withN; rw [Nat.testBit_or, only_bit f i hi]
/-- without a floor -/
def lessN (s : Nat) (f : Int) : Nat := s &&& (18446744073709551615 - onlyN f)
theorem lessN_lt {s : Nat} (f : Int) (hs : s < 18446744073709551616) : lessN s f < 18446744073709551616 := by
  unfold lessN; have := Nat.and_le_left (n := s) (m := 18446744073709551615 - onlyN f); omega
theorem lessN_bit (s : Nat) (f : Int) (i : Nat) (hi : i < 64) : (lessN s f).testBit i = (s.testBit i && !decide (f = (i : Int))) := by
  unfold lessN
  have h := onlyN_lt f
  have e : 18446744073709551615 - onlyN f = 2 ^ 64 - (onlyN f + 1) := by omega
  rw [Nat.testBit_and, e, Nat.testBit_two_pow_sub_succ (by omega), only_bit f i hi]
  simp [hi]

end Go.Proofs.Ytiihnjfknohhbad.FM
