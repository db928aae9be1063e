/- Plain mathematics of numbers within the limit 2^40: no program is named here. -/
namespace Go.Proofs.Ytkcppidmbojglaf.NumM

/-- a number within the limit -/
def cl (a : Int) : Int := if 1099511627776 < a then 1099511627776 else if a < -1099511627776 then -1099511627776 else a

theorem cl_bd (a : Int) : -1099511627776 ≤ cl a ∧ cl a ≤ 1099511627776 := by
  unfold cl; split
  · omega
  · split <;> omega

theorem cl_hi {a : Int} (h : 1099511627776 < a) : cl a = 1099511627776 := by unfold cl; rw [if_pos h]
theorem cl_lo {a : Int} (h : a < -1099511627776) : cl a = -1099511627776 := by
  unfold cl; rw [if_neg (by omega), if_pos h]
theorem cl_in {a : Int} (h1 : -1099511627776 ≤ a) (h2 : a ≤ 1099511627776) : cl a = a := by
  unfold cl; rw [if_neg (by omega), if_neg (by omega)]
theorem cl_ge {a : Int} (h : 1099511627776 ≤ a) : cl a = 1099511627776 := by
  unfold cl; split
  · rfl
  · split <;> omega
theorem cl_le {a : Int} (h : a ≤ -1099511627776) : cl a = -1099511627776 := by
  unfold cl; split
  · omega
  · split <;> omega
theorem cl_cl (a : Int) : cl (cl a) = cl a := cl_in (cl_bd a).1 (cl_bd a).2
theorem cl_mono {a b : Int} (h : a ≤ b) : cl a ≤ cl b := by
  unfold cl; repeat' split
  all_goals omega
theorem cl_neg (a : Int) : cl (-a) = -cl a := by
  unfold cl; repeat' split
  all_goals omega

/-- the size of a number -/
def sz (a : Int) : Int := if a < 0 then -a else a
theorem sz_nonneg (a : Int) : 0 ≤ sz a := by unfold sz; split <;> omega
theorem sz_bd {a : Int} (h1 : -1099511627776 ≤ a) (h2 : a ≤ 1099511627776) : sz a ≤ 1099511627776 := by
  unfold sz; split <;> omega
theorem sz_pos {a : Int} (h : a ≠ 0) : 1 ≤ sz a := by unfold sz; split <;> omega
theorem sz_neg {a : Int} (h : a < 0) : sz a = -a := by unfold sz; rw [if_pos h]
theorem sz_nn {a : Int} (h : 0 ≤ a) : sz a = a := by unfold sz; rw [if_neg (by omega)]
theorem sz_mul (a b : Int) : sz (a * b) = sz a * sz b := by
  by_cases ha : a < 0 <;> by_cases hb : b < 0
  · have h : 0 < a * b := Int.mul_pos_of_neg_of_neg ha hb
    rw [sz_nn (by omega), sz_neg ha, sz_neg hb, Int.neg_mul_neg]
  · by_cases h0 : b = 0
    · subst h0; simp [sz]
    · have h : a * b < 0 := Int.mul_neg_of_neg_of_pos ha (by omega)
      rw [sz_neg h, sz_neg ha, sz_nn (by omega), Int.neg_mul]
  · by_cases h0 : a = 0
    · subst h0; simp [sz]
    · have h : a * b < 0 := Int.mul_neg_of_pos_of_neg (by omega) hb
      rw [sz_neg h, sz_neg hb, sz_nn (by omega), Int.mul_neg]
  · have h : 0 ≤ a * b := Int.mul_nonneg (by omega) (by omega)
    rw [sz_nn h, sz_nn (by omega), sz_nn (by omega)]

/-- the product, within the limit: the test asks whether it passes -/
theorem big_of {x y : Int} (hx : 1 ≤ x) (h : 1099511627776 / x < y) : 1099511627776 < x * y := by
  have h1 := Int.lt_ediv_add_one_mul_self 1099511627776 (by omega : 0 < x)
  have h2 : (1099511627776 / x + 1) * x ≤ y * x := Int.mul_le_mul_of_nonneg_right (by omega) (by omega)
  rw [Int.mul_comm x y]; omega
theorem small_of {x y : Int} (hx : 1 ≤ x) (h : y ≤ 1099511627776 / x) : x * y ≤ 1099511627776 := by
  have h1 := Int.ediv_mul_le 1099511627776 (by omega : x ≠ 0)
  have h2 : y * x ≤ 1099511627776 / x * x := Int.mul_le_mul_of_nonneg_right h (by omega)
  rw [Int.mul_comm x y]; omega

/-- what the product comes to where it passes the limit -/
theorem cl_mul_pass {a b : Int} (ha : a ≠ 0) (h : 1099511627776 / sz a < sz b) :
    cl (a * b) = if (a < 0) ≠ (b < 0) then -1099511627776 else 1099511627776 := by
  have hb := big_of (sz_pos ha) h
  rw [← sz_mul] at hb
  have h1 := sz_nonneg (1099511627776 / sz a)
  have hb0 : b ≠ 0 := by
    rintro rfl
    simp [sz] at hb
  by_cases hm : a * b < 0
  · rw [sz_neg hm] at hb
    rw [cl_lo (by omega)]
    by_cases xa : a < 0 <;> by_cases xb : b < 0
    · have := Int.mul_pos_of_neg_of_neg xa xb; omega
    · simp [xa, xb]
    · simp [xa, xb]
    · have := Int.mul_nonneg (by omega : 0 ≤ a) (by omega : 0 ≤ b); omega
  · rw [sz_nn (by omega)] at hb
    rw [cl_hi hb]
    by_cases xa : a < 0 <;> by_cases xb : b < 0
    · simp [xa, xb]
    · have := Int.mul_neg_of_neg_of_pos xa (by omega : 0 < b); omega
    · have := Int.mul_neg_of_pos_of_neg (by omega : 0 < a) xb; omega
    · simp [xa, xb]
theorem mul_small {a b : Int} (h : a = 0 ∨ sz b ≤ 1099511627776 / sz a) : -1099511627776 ≤ a * b ∧ a * b ≤ 1099511627776 := by
  by_cases ha : a = 0
  · subst ha; simp
  · have h' : sz b ≤ 1099511627776 / sz a := by rcases h with h | h; exact absurd h ha; exact h
    have := small_of (sz_pos ha) h'
    rw [← sz_mul] at this
    by_cases hm : a * b < 0
    · rw [sz_neg hm] at this; omega
    · rw [sz_nn (by omega)] at this; omega

/-- one round of the product by adding -/
theorem round_odd {n a q : Int} (hn : 0 ≤ n) (ha : 0 ≤ a) (hq : 0 ≤ q) :
    cl (cl (n + a) + cl (a + a) * q) = cl (n + a * (2 * q + 1)) := by
  have e : n + a * (2 * q + 1) = (n + a) + (a + a) * q := by
    rw [Int.mul_add, Int.mul_one, ← Int.mul_assoc, Int.mul_comm a 2, Int.two_mul]; omega
  have h0 : 0 ≤ (a + a) * q := Int.mul_nonneg (by omega) hq
  have h1 : 0 ≤ cl (a + a) * q := Int.mul_nonneg (by have := cl_mono (show 0 ≤ a + a by omega); simpa [cl] using this) hq
  rw [e]
  by_cases c1 : n + a ≤ 1099511627776
  · rw [cl_in (a := n + a) (by omega) c1]
    by_cases c2 : a + a ≤ 1099511627776
    · rw [cl_in (a := a + a) (by omega) c2]
    · rw [cl_hi (a := a + a) (by omega)]
      by_cases c3 : q = 0
      · subst c3; simp
      · have g1 : 1099511627776 * 1 ≤ 1099511627776 * q := Int.mul_le_mul_of_nonneg_left (by omega) (by omega)
        have g2 : 1099511627776 * q ≤ (a + a) * q := Int.mul_le_mul_of_nonneg_right (by omega) hq
        rw [cl_ge (by omega), cl_ge (by omega)]
  · rw [cl_hi (a := n + a) (by omega), cl_ge (by omega), cl_ge (by omega)]
theorem round_even {n a q : Int} (hn : 0 ≤ n) (ha : 0 ≤ a) (hq : 0 ≤ q) :
    cl (n + cl (a + a) * q) = cl (n + a * (2 * q)) := by
  have e : n + a * (2 * q) = n + (a + a) * q := by
    rw [← Int.mul_assoc, Int.mul_comm a 2, Int.two_mul]
  have h0 : 0 ≤ (a + a) * q := Int.mul_nonneg (by omega) hq
  rw [e]
  by_cases c2 : a + a ≤ 1099511627776
  · rw [cl_in (a := a + a) (by omega) c2]
  · rw [cl_hi (a := a + a) (by omega)]
    by_cases c3 : q = 0
    · subst c3; simp
    · have g1 : 1099511627776 * 1 ≤ 1099511627776 * q := Int.mul_le_mul_of_nonneg_left (by omega) (by omega)
      have g2 : 1099511627776 * q ≤ (a + a) * q := Int.mul_le_mul_of_nonneg_right (by omega) hq
      rw [cl_ge (by omega), cl_ge (by omega)]

theorem cl_nn {a : Int} (h : 0 ≤ a) : 0 ≤ cl a := by
  have := cl_mono h
  simpa [cl] using this
/-- the product's sign is put back -/
theorem signs_pp {a b n : Int} (xa : decide (a < 0) = false) (xb : decide (b < 0) = false) (h : cl n = cl (sz a * sz b)) (h1 : 0 ≤ n) (h2 : n ≤ 1099511627776) : n = cl (a * b) := by
  simp only [decide_eq_false_iff_not] at xa xb
  rw [cl_in (by omega) h2] at h
  rw [h, sz_nn (by omega), sz_nn (by omega)]
theorem signs_nn {a b n : Int} (xa : decide (a < 0) = true) (xb : decide (b < 0) = true) (h : cl n = cl (sz a * sz b)) (h1 : 0 ≤ n) (h2 : n ≤ 1099511627776) : n = cl (a * b) := by
  simp only [decide_eq_true_eq] at xa xb
  rw [cl_in (by omega) h2] at h
  rw [h, sz_neg xa, sz_neg xb, Int.neg_mul_neg]
theorem signs_np {a b n : Int} (xa : decide (a < 0) = true) (xb : decide (b < 0) = false) (h : cl n = cl (sz a * sz b)) (h1 : 0 ≤ n) (h2 : n ≤ 1099511627776) : -n = cl (a * b) := by
  simp only [decide_eq_true_eq, decide_eq_false_iff_not] at xa xb
  rw [cl_in (by omega) h2] at h
  rw [h, sz_neg xa, sz_nn (by omega), Int.neg_mul, cl_neg, Int.neg_neg]
theorem signs_pn {a b n : Int} (xa : decide (a < 0) = false) (xb : decide (b < 0) = true) (h : cl n = cl (sz a * sz b)) (h1 : 0 ≤ n) (h2 : n ≤ 1099511627776) : -n = cl (a * b) := by
  simp only [decide_eq_true_eq, decide_eq_false_iff_not] at xa xb
  rw [cl_in (by omega) h2] at h
  rw [h, sz_nn (by omega), sz_neg xb, Int.mul_neg, cl_neg, Int.neg_neg]
theorem step_odd {n x y : Int} (hn : 0 ≤ n) (hn2 : n ≤ 1099511627776) (hx : 0 ≤ x) (hx2 : x ≤ 1099511627776) (hy : 0 ≤ y) (ho : y % 2 = 1) :
    cl (cl (cl n + cl x) + cl (cl x + cl x) * (y / 2)) = cl (n + x * y) := by
  rw [cl_in (a := n) (by omega) hn2, cl_in (a := x) (by omega) hx2, round_odd hn hx (by omega)]
  rw [show 2 * (y / 2) + 1 = y by omega]
theorem step_even {n x y : Int} (hn : 0 ≤ n) (hx : 0 ≤ x) (hx2 : x ≤ 1099511627776) (hy : 0 ≤ y) (ho : ¬ y % 2 = 1) :
    cl (n + cl (cl x + cl x) * (y / 2)) = cl (n + x * y) := by
  rw [cl_in (a := x) (by omega) hx2, round_even hn hx (by omega)]
  rw [show 2 * (y / 2) = y by omega]
theorem dbl_nn {x y : Int} (hx : 0 ≤ x) (hy : 0 ≤ y) : 0 ≤ cl (cl x + cl y) := cl_nn (by have := cl_nn hx; have := cl_nn hy; omega)

/-- the sum of a list, one behind the other -/
def sumL (l : List Int) : Int := l.foldl (fun n x => cl (cl n + cl x)) 0
theorem sumL_snoc (l : List Int) (x : Int) : sumL (l ++ [x]) = cl (cl (sumL l) + cl x) := by simp [sumL]
theorem sumL_bd (l : List Int) : -1099511627776 ≤ sumL l ∧ sumL l ≤ 1099511627776 := by
  rcases List.eq_nil_or_concat l with h | ⟨l', x, h⟩
  · subst h; simp [sumL]
  · rw [h, List.concat_eq_append, sumL_snoc]; exact cl_bd _

end Go.Proofs.Ytkcppidmbojglaf.NumM
