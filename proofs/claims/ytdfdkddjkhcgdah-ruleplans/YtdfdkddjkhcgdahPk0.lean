/- Several texts in one, each with its own head. -/
import Derived.Test.YtdfdkddjkhcgdahRows
/- Plain mathematics of numbers within the limit 2^40: no program is named here. -/
namespace Go.Proofs.Ytdfdkddjkhcgdah.NumM

/-- a number within the limit -/
def cl (a : Int) : Int := if 1099511627776 < a then 1099511627776 else if a < -1099511627776 then -1099511627776 else a

theorem cl_bd (a : Int) : -1099511627776 ≤ cl a ∧ cl a ≤ 1099511627776 := by
  unfold cl; split
  · omega
  · split <;> omega

theorem cl_hi {a : Int} (h : 1099511627776 < a) : cl a = 1099511627776 := by unfold cl; rw [if_pos h]
theorem cl_lo {a : Int} (h : a < -1099511627776) : cl a = -1099511627776 := by
  unfold cl; rw [if_neg (by omega), if_pos h]
theorem cl_in {a : Int} (h1 : -1099511627776 ≤ a) (h2 : a ≤ 1099511627776) : cl a = a := by
  unfold cl; rw [if_neg (by omega), if_neg (by omega)]
theorem cl_ge {a : Int} (h : 1099511627776 ≤ a) : cl a = 1099511627776 := by
  unfold cl; split
  · rfl
  · split <;> omega
theorem cl_le {a : Int} (h : a ≤ -1099511627776) : cl a = -1099511627776 := by
  unfold cl; split
  · omega
  · split <;> omega
theorem cl_cl (a : Int) : cl (cl a) = cl a := cl_in (cl_bd a).1 (cl_bd a).2
theorem cl_mono {a b : Int} (h : a ≤ b) : cl a ≤ cl b := by
  unfold cl; repeat' split
  all_goals omega
theorem cl_neg (a : Int) : cl (-a) = -cl a := by
  unfold cl; repeat' split
  all_goals omega

/-- the size of a number -/
def sz (a : Int) : Int := if a < 0 then -a else a
theorem sz_nonneg (a : Int) : 0 ≤ sz a := by unfold sz; split <;> omega
theorem sz_bd {a : Int} (h1 : -1099511627776 ≤ a) (h2 : a ≤ 1099511627776) : sz a ≤ 1099511627776 := by
  unfold sz; split <;> omega
theorem sz_pos {a : Int} (h : a ≠ 0) : 1 ≤ sz a := by unfold sz; split <;> omega
theorem sz_neg {a : Int} (h : a < 0) : sz a = -a := by unfold sz; rw [if_pos h]
theorem sz_nn {a : Int} (h : 0 ≤ a) : sz a = a := by unfold sz; rw [if_neg (by omega)]
theorem sz_mul (a b : Int) : sz (a * b) = sz a * sz b := by
  by_cases ha : a < 0 <;> by_cases hb : b < 0
  · have h : 0 < a * b := Int.mul_pos_of_neg_of_neg ha hb
    rw [sz_nn (by omega), sz_neg ha, sz_neg hb, Int.neg_mul_neg]
  · by_cases h0 : b = 0
    · subst h0; simp [sz]
    · have h : a * b < 0 := Int.mul_neg_of_neg_of_pos ha (by omega)
      rw [sz_neg h, sz_neg ha, sz_nn (by omega), Int.neg_mul]
  · by_cases h0 : a = 0
    · subst h0; simp [sz]
    · have h : a * b < 0 := Int.mul_neg_of_pos_of_neg (by omega) hb
      rw [sz_neg h, sz_neg hb, sz_nn (by omega), Int.mul_neg]
  · have h : 0 ≤ a * b := Int.mul_nonneg (by omega) (by omega)
    rw [sz_nn h, sz_nn (by omega), sz_nn (by omega)]

/-- the product, within the limit: the test asks whether it passes -/
theorem big_of {x y : Int} (hx : 1 ≤ x) (h : 1099511627776 / x < y) : 1099511627776 < x * y := by
  have h1 := Int.lt_ediv_add_one_mul_self 1099511627776 (by omega : 0 < x)
  have h2 : (1099511627776 / x + 1) * x ≤ y * x := Int.mul_le_mul_of_nonneg_right (by omega) (by omega)
  rw [Int.mul_comm x y]; omega
theorem small_of {x y : Int} (hx : 1 ≤ x) (h : y ≤ 1099511627776 / x) : x * y ≤ 1099511627776 := by
  have h1 := Int.ediv_mul_le 1099511627776 (by omega : x ≠ 0)
  have h2 : y * x ≤ 1099511627776 / x * x := Int.mul_le_mul_of_nonneg_right h (by omega)
  rw [Int.mul_comm x y]; omega

/-- what the product comes to where it passes the limit -/
theorem cl_mul_pass {a b : Int} (ha : a ≠ 0) (h : 1099511627776 / sz a < sz b) :
    cl (a * b) = if (a < 0) ≠ (b < 0) then -1099511627776 else 1099511627776 := by
  have hb := big_of (sz_pos ha) h
  rw [← sz_mul] at hb
  have h1 := sz_nonneg (1099511627776 / sz a)
  have hb0 : b ≠ 0 := by
    rintro rfl
    simp [sz] at hb
  by_cases hm : a * b < 0
  · rw [sz_neg hm] at hb
    rw [cl_lo (by omega)]
    by_cases xa : a < 0 <;> by_cases xb : b < 0
    · have := Int.mul_pos_of_neg_of_neg xa xb; omega
    · simp [xa, xb]
    · simp [xa, xb]
    · have := Int.mul_nonneg (by omega : 0 ≤ a) (by omega : 0 ≤ b); omega
  · rw [sz_nn (by omega)] at hb
    rw [cl_hi hb]
    by_cases xa : a < 0 <;> by_cases xb : b < 0
    · simp [xa, xb]
    · have := Int.mul_neg_of_neg_of_pos xa (by omega : 0 < b); omega
    · have := Int.mul_neg_of_pos_of_neg (by omega : 0 < a) xb; omega
    · simp [xa, xb]
theorem mul_small {a b : Int} (h : a = 0 ∨ sz b ≤ 1099511627776 / sz a) : -1099511627776 ≤ a * b ∧ a * b ≤ 1099511627776 := by
  by_cases ha : a = 0
  · subst ha; simp
  · have h' : sz b ≤ 1099511627776 / sz a := by rcases h with h | h; exact absurd h ha; exact h
    have := small_of (sz_pos ha) h'
    rw [← sz_mul] at this
    by_cases hm : a * b < 0
    · rw [sz_neg hm] at this; omega
    · rw [sz_nn (by omega)] at this; omega

/-- one round of the product by adding -/
theorem round_odd {n a q : Int} (hn : 0 ≤ n) (ha : 0 ≤ a) (hq : 0 ≤ q) :
    cl (cl (n + a) + cl (a + a) * q) = cl (n + a * (2 * q + 1)) := by
  have e : n + a * (2 * q + 1) = (n + a) + (a + a) * q := by
    rw [Int.mul_add, Int.mul_one, ← Int.mul_assoc, Int.mul_comm a 2, Int.two_mul]; omega
  have h0 : 0 ≤ (a + a) * q := Int.mul_nonneg (by omega) hq
  have h1 : 0 ≤ cl (a + a) * q := Int.mul_nonneg (by have := cl_mono (show 0 ≤ a + a by omega); simpa [cl] using this) hq
  rw [e]
  by_cases c1 : n + a ≤ 1099511627776
  · rw [cl_in (a := n + a) (by omega) c1]
    by_cases c2 : a + a ≤ 1099511627776
    · rw [cl_in (a := a + a) (by omega) c2]
    · rw [cl_hi (a := a + a) (by omega)]
      by_cases c3 : q = 0
      · subst c3; simp
      · have g1 : 1099511627776 * 1 ≤ 1099511627776 * q := Int.mul_le_mul_of_nonneg_left (by omega) (by omega)
        have g2 : 1099511627776 * q ≤ (a + a) * q := Int.mul_le_mul_of_nonneg_right (by omega) hq
        rw [cl_ge (by omega), cl_ge (by omega)]
  · rw [cl_hi (a := n + a) (by omega), cl_ge (by omega), cl_ge (by omega)]
theorem round_even {n a q : Int} (hn : 0 ≤ n) (ha : 0 ≤ a) (hq : 0 ≤ q) :
    cl (n + cl (a + a) * q) = cl (n + a * (2 * q)) := by
  have e : n + a * (2 * q) = n + (a + a) * q := by
    rw [← Int.mul_assoc, Int.mul_comm a 2, Int.two_mul]
  have h0 : 0 ≤ (a + a) * q := Int.mul_nonneg (by omega) hq
  rw [e]
  by_cases c2 : a + a ≤ 1099511627776
  · rw [cl_in (a := a + a) (by omega) c2]
  · rw [cl_hi (a := a + a) (by omega)]
    by_cases c3 : q = 0
    · subst c3; simp
    · have g1 : 1099511627776 * 1 ≤ 1099511627776 * q := Int.mul_le_mul_of_nonneg_left (by omega) (by omega)
      have g2 : 1099511627776 * q ≤ (a + a) * q := Int.mul_le_mul_of_nonneg_right (by omega) hq
      rw [cl_ge (by omega), cl_ge (by omega)]

theorem cl_nn {a : Int} (h : 0 ≤ a) : 0 ≤ cl a := by
  have := cl_mono h
  simpa [cl] using this
/-- the product's sign is put back -/
theorem signs_pp {a b n : Int} (xa : decide (a < 0) = false) (xb : decide (b < 0) = false) (h : cl n = cl (sz a * sz b)) (h1 : 0 ≤ n) (h2 : n ≤ 1099511627776) : n = cl (a * b) := by
  simp only [decide_eq_false_iff_not] at xa xb
  rw [cl_in (by omega) h2] at h
  rw [h, sz_nn (by omega), sz_nn (by omega)]
theorem signs_nn {a b n : Int} (xa : decide (a < 0) = true) (xb : decide (b < 0) = true) (h : cl n = cl (sz a * sz b)) (h1 : 0 ≤ n) (h2 : n ≤ 1099511627776) : n = cl (a * b) := by
  simp only [decide_eq_true_eq] at xa xb
  rw [cl_in (by omega) h2] at h
  rw [h, sz_neg xa, sz_neg xb, Int.neg_mul_neg]
theorem signs_np {a b n : Int} (xa : decide (a < 0) = true) (xb : decide (b < 0) = false) (h : cl n = cl (sz a * sz b)) (h1 : 0 ≤ n) (h2 : n ≤ 1099511627776) : -n = cl (a * b) := by
  simp only [decide_eq_true_eq, decide_eq_false_iff_not] at xa xb
  rw [cl_in (by omega) h2] at h
  rw [h, sz_neg xa, sz_nn (by omega), Int.neg_mul, cl_neg, Int.neg_neg]
theorem signs_pn {a b n : Int} (xa : decide (a < 0) = false) (xb : decide (b < 0) = true) (h : cl n = cl (sz a * sz b)) (h1 : 0 ≤ n) (h2 : n ≤ 1099511627776) : -n = cl (a * b) := by
  simp only [decide_eq_true_eq, decide_eq_false_iff_not] at xa xb
  rw [cl_in (by omega) h2] at h
  rw [h, sz_nn (by omega), sz_neg xb, Int.mul_neg, cl_neg, Int.neg_neg]
theorem step_odd {n x y : Int} (hn : 0 ≤ n) (hn2 : n ≤ 1099511627776) (hx : 0 ≤ x) (hx2 : x ≤ 1099511627776) (hy : 0 ≤ y) (ho : y % 2 = 1) :
    cl (cl (cl n + cl x) + cl (cl x + cl x) * (y / 2)) = cl (n + x * y) := by
  rw [cl_in (a := n) (by omega) hn2, cl_in (a := x) (by omega) hx2, round_odd hn hx (by omega)]
  rw [show 2 * (y / 2) + 1 = y by omega]
theorem step_even {n x y : Int} (hn : 0 ≤ n) (hx : 0 ≤ x) (hx2 : x ≤ 1099511627776) (hy : 0 ≤ y) (ho : ¬ y % 2 = 1) :
    cl (n + cl (cl x + cl x) * (y / 2)) = cl (n + x * y) := by
  rw [cl_in (a := x) (by omega) hx2, round_even hn hx (by omega)]
  rw [show 2 * (y / 2) = y by omega]
theorem dbl_nn {x y : Int} (hx : 0 ≤ x) (hy : 0 ≤ y) : 0 ≤ cl (cl x + cl y) := cl_nn (by have := cl_nn hx; have := cl_nn hy; omega)

/-- the sum of a list, one behind the other -/
def sumL (l : List Int) : Int := l.foldl (fun n x => cl (cl n + cl x)) 0
theorem sumL_snoc (l : List Int) (x : Int) : sumL (l ++ [x]) = cl (cl (sumL l) + cl x) := by simp [sumL]
theorem sumL_bd (l : List Int) : -1099511627776 ≤ sumL l ∧ sumL l ≤ 1099511627776 := by
  rcases List.eq_nil_or_concat l with h | ⟨l', x, h⟩
  · subst h; simp [sumL]
  · rw [h, List.concat_eq_append, sumL_snoc]; exact cl_bd _

end Go.Proofs.Ytdfdkddjkhcgdah.NumM

/- Sites, and which are right. No program is named here. -/
namespace Go.Proofs.Ytdfdkddjkhcgdah

theorem ret_int {k : IntKind} {a b : Int} (h : a = b) : Ending.returned (.int k a) = .returned (.int k b) := by rw [h]

/-- a site's numbers -/
structure St where
  fl : Int
  ca : Int
  sta : Int
  ste : Int
  sto : Int
  opn : Int
  wai : Int
  clo : Int
  nud : Int
  age : Int
  sil : Int
  bud : Int
  per : Int

namespace SM

/-- a site that is right -/
structure Rt (s : St) : Prop where
  fl1 : 2 ≤ s.fl
  fl2 : s.fl ≤ 64
  ca1 : 1 ≤ s.ca
  ca2 : s.ca ≤ 8
  sta1 : 0 ≤ s.sta
  sta2 : s.sta ≤ 1000
  ste1 : 1 ≤ s.ste
  ste2 : s.ste ≤ 1000
  sto1 : 0 ≤ s.sto
  sto2 : s.sto ≤ 1000
  opn1 : 1 ≤ s.opn
  opn2 : s.opn ≤ 1000
  wai1 : 1 ≤ s.wai
  wai2 : s.wai ≤ 1000
  clo1 : 1 ≤ s.clo
  clo2 : s.clo ≤ 1000
  nud1 : 0 ≤ s.nud
  nud2 : s.nud ≤ 10
  age1 : 1 ≤ s.age
  age2 : s.age ≤ 1000000
  sil1 : 1 ≤ s.sil
  sil2 : s.sil ≤ 1000000
  bud1 : 1 ≤ s.bud
  bud2 : s.bud ≤ 1000000
  per1 : 1 ≤ s.per
  per2 : s.per ≤ 1000

end SM
end Go.Proofs.Ytdfdkddjkhcgdah

/- Plain mathematics of sites: what is right, and how long things take. No program is named here. -/
namespace Go.Proofs.Ytdfdkddjkhcgdah

namespace SM

/-- how far -/
def dist (a b : Int) : Int := if a < b then b - a else a - b
/-- travel -/
def trav (s : St) (a b : Int) : Int := if a < 0 ∨ b < 0 ∨ s.fl ≤ a ∨ s.fl ≤ b ∨ a = b then 0 else s.sta + s.ste * dist a b + s.sto
/-- a hold, within its bounds -/
def hol (h : Int) : Int := if h < 0 then 0 else if 1000000 < h then 1000000 else h
def run (s : St) : Int := s.opn + s.wai + s.clo + 4
def ser (s : St) (h : Int) : Int := s.sta + s.ste * (s.fl - 1) + s.sto + run s + s.nud * (run s + hol h)
def bou (s : St) (h : Int) : Int := s.age + 130 * ser s h + s.per

theorem hol_bd (h : Int) : 0 ≤ hol h ∧ hol h ≤ 1000000 := by
  unfold hol; split
  · omega
  · split <;> omega
theorem run_bd {s : St} (r : Rt s) : 7 ≤ run s ∧ run s ≤ 3004 := by
  have := r.opn1; have := r.opn2; have := r.wai1; have := r.wai2; have := r.clo1; have := r.clo2
  unfold run; omega
theorem mul_bd {a b A B : Int} (h1 : 0 ≤ a) (h2 : a ≤ A) (h3 : 0 ≤ b) (h4 : b ≤ B) : 0 ≤ a * b ∧ a * b ≤ A * B :=
  ⟨Int.mul_nonneg h1 h3, Int.mul_le_mul h2 h4 h3 (by omega)⟩
theorem step_bd {s : St} (r : Rt s) {d : Int} (h1 : 0 ≤ d) (h2 : d ≤ 63) : 0 ≤ s.ste * d ∧ s.ste * d ≤ 63000 := by
  have := r.ste1; have := r.ste2
  have := mul_bd (a := s.ste) (b := d) (A := 1000) (B := 63) (by omega) (by omega) h1 h2
  omega
theorem nudge_bd {s : St} (r : Rt s) (h : Int) : 0 ≤ s.nud * (run s + hol h) ∧ s.nud * (run s + hol h) ≤ 10030040 := by
  have := r.nud1; have := r.nud2
  have := run_bd r; have := hol_bd h
  have := mul_bd (a := s.nud) (b := run s + hol h) (A := 10) (B := 1003004) (by omega) (by omega) (by omega) (by omega)
  omega
theorem ser_bd {s : St} (r : Rt s) (h : Int) : 8 ≤ ser s h ∧ ser s h ≤ 10098044 := by
  have a := step_bd r (d := s.fl - 1) (by have := r.fl1; omega) (by have := r.fl2; omega)
  have b := nudge_bd r h
  have c := run_bd r
  have := r.sta1; have := r.sta2; have := r.sto1; have := r.sto2
  have e := mul_bd (a := 1) (b := s.fl - 1) (A := s.ste) (B := s.fl - 1) (by omega) r.ste1 (by have := r.fl1; omega) (by omega)
  have := r.fl1
  unfold ser; omega
theorem bou_bd {s : St} (r : Rt s) (h : Int) : 0 ≤ bou s h ∧ bou s h ≤ 1400000000 := by
  have := ser_bd r h
  have := r.age1; have := r.age2; have := r.per1; have := r.per2
  unfold bou; omega
theorem dist_bd {s : St} (r : Rt s) {a b : Int} (h1 : 0 ≤ a) (h2 : 0 ≤ b) (h3 : a < s.fl) (h4 : b < s.fl) : 0 ≤ dist a b ∧ dist a b ≤ 63 := by
  have := r.fl2
  unfold dist; split <;> omega
theorem trav_out {s : St} {a b : Int} (h : a < 0 ∨ b < 0 ∨ s.fl ≤ a ∨ s.fl ≤ b ∨ a = b) : trav s a b = 0 := by unfold trav; rw [if_pos h]
theorem trav_in {s : St} {a b : Int} (h1 : 0 ≤ a) (h2 : 0 ≤ b) (h3 : a < s.fl) (h4 : b < s.fl) (h5 : a ≠ b) : trav s a b = s.sta + s.ste * dist a b + s.sto := by
  unfold trav; rw [if_neg (by omega)]
theorem trav_bd {s : St} (r : Rt s) (a b : Int) : 0 ≤ trav s a b ∧ trav s a b ≤ 65000 := by
  unfold trav; split
  · omega
  · rename_i h
    have d := dist_bd r (a := a) (b := b) (by omega) (by omega) (by omega) (by omega)
    have := step_bd r d.1 d.2
    have := r.sta1; have := r.sta2; have := r.sto1; have := r.sto2
    omega

/-- the sums, within the limit -/
theorem sumL3 {a b c : Int} (h1 : 0 ≤ a) (h2 : 0 ≤ b) (h3 : 0 ≤ c) (h : a + b + c ≤ 1099511627776) : NumM.sumL [a, b, c] = a + b + c := by
  have e : ([a, b, c] : List Int) = (([] ++ [a]) ++ [b]) ++ [c] := rfl
  rw [e, NumM.sumL_snoc, NumM.sumL_snoc, NumM.sumL_snoc]
  have z : NumM.sumL [] = 0 := rfl
  rw [z, NumM.cl_in (a := 0) (by omega) (by omega), NumM.cl_in (a := a) (by omega) (by omega), Int.zero_add, NumM.cl_in (a := a) (by omega) (by omega),
    NumM.cl_in (a := a) (by omega) (by omega), NumM.cl_in (a := b) (by omega) (by omega), NumM.cl_in (a := a + b) (by omega) (by omega), NumM.cl_in (a := a + b) (by omega) (by omega),
    NumM.cl_in (a := c) (by omega) (by omega), NumM.cl_in (by omega) (by omega)]
theorem sumL4 {a b c d : Int} (h1 : 0 ≤ a) (h2 : 0 ≤ b) (h3 : 0 ≤ c) (h4 : 0 ≤ d) (h : a + b + c + d ≤ 1099511627776) : NumM.sumL [a, b, c, d] = a + b + c + d := by
  have e : ([a, b, c, d] : List Int) = [a, b, c] ++ [d] := rfl
  rw [e, NumM.sumL_snoc, sumL3 h1 h2 h3 (by omega), NumM.cl_in (a := a + b + c) (by omega) (by omega), NumM.cl_in (a := d) (by omega) (by omega), NumM.cl_in (by omega) (by omega)]
theorem mulC {a b A B : Int} (h1 : 0 ≤ a) (h2 : a ≤ A) (h3 : 0 ≤ b) (h4 : b ≤ B) (hA : A ≤ 1099511627776) (hB : B ≤ 1099511627776) (h : A * B ≤ 1099511627776) : NumM.cl (NumM.cl a * NumM.cl b) = a * b := by
  have := mul_bd h1 h2 h3 h4
  rw [NumM.cl_in (a := a) (by omega) (by omega), NumM.cl_in (a := b) (by omega) (by omega), NumM.cl_in (by omega) (by omega)]
theorem addC {a b : Int} (h1 : 0 ≤ a) (h2 : 0 ≤ b) (h : a + b ≤ 1099511627776) : NumM.cl (NumM.cl a + NumM.cl b) = a + b := by
  rw [NumM.cl_in (a := a) (by omega) (by omega), NumM.cl_in (a := b) (by omega) (by omega), NumM.cl_in (by omega) (by omega)]

theorem travel_sum {s : St} (r : Rt s) {a b : Int} (h1 : 0 ≤ a) (h2 : 0 ≤ b) (h3 : a < s.fl) (h4 : b < s.fl) (h5 : a ≠ b) :
    NumM.sumL [s.sta, NumM.cl (NumM.cl s.ste * NumM.cl (dist a b)), s.sto] = trav s a b := by
  have d := dist_bd r h1 h2 h3 h4
  have := step_bd r d.1 d.2
  have := r.ste1; have := r.ste2; have := r.sta1; have := r.sta2; have := r.sto1; have := r.sto2
  rw [mulC (A := 1000) (B := 63) (by omega) (by omega) d.1 d.2 (by omega) (by omega) (by omega), sumL3 (by omega) (by omega) (by omega) (by omega), trav_in h1 h2 h3 h4 h5]
theorem run_sum {s : St} (r : Rt s) : NumM.sumL [s.opn, s.wai, s.clo, 4] = run s := by
  have := r.opn1; have := r.opn2; have := r.wai1; have := r.wai2; have := r.clo1; have := r.clo2
  rw [sumL4 (by omega) (by omega) (by omega) (by omega) (by omega)]; rfl
theorem again_mul {s : St} (r : Rt s) (h : Int) : NumM.cl (NumM.cl s.nud * NumM.cl (NumM.cl (NumM.cl (run s) + NumM.cl (hol h)))) = s.nud * (run s + hol h) := by
  have := run_bd r; have := hol_bd h; have := r.nud1; have := r.nud2
  rw [addC (by omega) (by omega) (by omega), mulC (A := 10) (B := 1003004) (by omega) (by omega) (by omega) (by omega) (by omega) (by omega) (by omega)]
theorem again_mul' {s : St} (r : Rt s) (h : Int) : NumM.cl (NumM.cl s.nud * NumM.cl (NumM.cl (NumM.cl (run s) + NumM.cl (hol h)))) = s.nud * (run s + hol h) := again_mul r h
theorem trav_all {s : St} (r : Rt s) : trav s 0 (s.fl - 1) = s.sta + s.ste * (s.fl - 1) + s.sto := by
  have := r.fl1
  rw [trav_in (by omega) (by omega) (by omega) (by omega) (by omega)]
  unfold dist; rw [if_pos (by omega), Int.sub_zero]
theorem ser_sum {s : St} (r : Rt s) (h : Int) : NumM.sumL [trav s 0 (s.fl - 1), run s, s.nud * (run s + hol h)] = ser s h := by
  have := trav_bd r 0 (s.fl - 1); have := run_bd r; have := nudge_bd r h
  rw [sumL3 (by omega) (by omega) (by omega) (by omega), trav_all r]; rfl
theorem bou_sum {s : St} (r : Rt s) (h : Int) : NumM.sumL [s.age, NumM.cl (NumM.cl 130 * NumM.cl (ser s h)), s.per] = bou s h := by
  have := ser_bd r h
  have := r.age1; have := r.age2; have := r.per1; have := r.per2
  rw [mulC (A := 130) (B := 10098044) (by omega) (by omega) (by omega) (by omega) (by omega) (by omega) (by omega), sumL3 (by omega) (by omega) (by omega) (by omega)]; rfl

end SM
end Go.Proofs.Ytdfdkddjkhcgdah

/- Plain mathematics: ways, and what is below what. -/
namespace Go.Proofs.Ytdfdkddjkhcgdah.SM

theorem dist_comm (a b : Int) : dist a b = dist b a := by unfold dist; split <;> split <;> omega
theorem dist_tri (a b c : Int) : dist a c ≤ dist a b + dist b c := by unfold dist; split <;> split <;> split <;> omega
theorem dist_nn (a b : Int) : 0 ≤ dist a b := by unfold dist; split <;> omega
theorem dist_pos {a b : Int} (h : a ≠ b) : 1 ≤ dist a b := by unfold dist; split <;> omega
theorem trav_comm (s : St) (a b : Int) : trav s a b = trav s b a := by
  unfold trav; rw [dist_comm]
  by_cases h : a < 0 ∨ b < 0 ∨ s.fl ≤ a ∨ s.fl ≤ b ∨ a = b
  · rw [if_pos h, if_pos (by omega)]
  · rw [if_neg h, if_neg (by omega)]
theorem trav_pos {s : St} (r : Rt s) {a b : Int} (h1 : 0 ≤ a) (h2 : 0 ≤ b) (h3 : a < s.fl) (h4 : b < s.fl) (h : a ≠ b) : 1 ≤ trav s a b := by
  rw [trav_in h1 h2 h3 h4 h]
  have d := dist_pos h
  have e := mul_bd (a := 1) (b := dist a b) (A := s.ste) (B := dist a b) (by omega) r.ste1 (by omega) (by omega)
  have := r.sta1; have := r.sto1
  omega
theorem trav_tri {s : St} (r : Rt s) {a b c : Int} (h1 : 0 ≤ a) (h2 : 0 ≤ b) (h3 : 0 ≤ c) (h4 : a < s.fl) (h5 : b < s.fl) (h6 : c < s.fl) : trav s a c ≤ trav s a b + trav s b c := by
  have g1 := (trav_bd r a b).1
  have g2 := (trav_bd r b c).1
  by_cases e1 : a = c
  · rw [trav_out (by omega)]; omega
  · by_cases e2 : a = b
    · subst e2; rw [trav_out (a := a) (b := a) (by omega)]; omega
    · by_cases e3 : b = c
      · subst e3; rw [trav_out (a := b) (b := b) (by omega)]; omega
      · rw [trav_in h1 h3 h4 h6 e1, trav_in h1 h2 h4 h5 e2, trav_in h2 h3 h5 h6 e3]
        have t := dist_tri a b c
        have m : s.ste * dist a c ≤ s.ste * (dist a b + dist b c) := Int.mul_le_mul_of_nonneg_left t (by have := r.ste1; omega)
        rw [Int.mul_add] at m
        have := r.sta1; have := r.sto1
        omega
theorem step_le {s : St} (r : Rt s) {d e : Int} (h : d ≤ e) : s.ste * d ≤ s.ste * e := Int.mul_le_mul_of_nonneg_left h (by have := r.ste1; omega)
theorem trav_lt_ser {s : St} (r : Rt s) (a b h : Int) : trav s a b < ser s h := by
  have n := (nudge_bd r h).1
  have u := (run_bd r).1
  have := r.sta1; have := r.sto1; have := r.fl1
  unfold trav ser
  split
  · have := (step_bd r (d := s.fl - 1) (by omega) (by have := r.fl2; omega)).1; omega
  · rename_i hh
    have d : dist a b ≤ s.fl - 1 := by unfold dist; split <;> omega
    have := step_le r d
    omega
theorem ser_lt_bou {s : St} (r : Rt s) (h : Int) : ser s h < bou s h := by
  have := ser_bd r h
  have := r.age1; have := r.per1
  unfold bou; omega
theorem hol_mono {h g : Int} (h1 : h ≤ g) : hol h ≤ hol g := by
  unfold hol; split <;> split <;> (try split) <;> (try split) <;> omega
theorem ser_mono {s : St} (r : Rt s) {h g : Int} (h1 : h ≤ g) : ser s h ≤ ser s g := by
  have m : s.nud * (run s + hol h) ≤ s.nud * (run s + hol g) := Int.mul_le_mul_of_nonneg_left (by have := hol_mono h1; omega) r.nud1
  unfold ser; omega

end Go.Proofs.Ytdfdkddjkhcgdah.SM

/- Plans, which may be, in their order, and how many there are. No program is named here. -/
namespace Go.Proofs.Ytdfdkddjkhcgdah
namespace PM

/-- may a car serve a want that has these cars? -/
def bt (m c : Nat) : Bool := m / 2 ^ c % 2 == 1
theorem bt_high {m c n : Nat} (h : m / 2 ^ n = 0) (hc : n ≤ c) : bt m c = false := by
  unfold bt
  have h1 : m < 2 ^ n := by
    rcases Nat.lt_or_ge m (2 ^ n) with h2 | h2
    · exact h2
    · have := Nat.div_pos h2 (Nat.two_pow_pos n)
      omega
  have h2 : 2 ^ n ≤ 2 ^ c := Nat.pow_le_pow_right (by omega) hc
  rw [Nat.div_eq_of_lt (by omega)]
  rfl

/-- sums -/
def sm : Nat → (Nat → Nat) → Nat
  | 0, _ => 0
  | n + 1, f => sm n f + f n
theorem sm_congr {n : Nat} {f g : Nat → Nat} (h : ∀ i, i < n → f i = g i) : sm n f = sm n g := by
  induction n with
  | zero => rfl
  | succ n ih => rw [sm, sm, ih (fun i hi => h i (by omega)), h n (by omega)]
theorem sm_add (n : Nat) (f g : Nat → Nat) : sm n (fun i => f i + g i) = sm n f + sm n g := by
  induction n with
  | zero => rfl
  | succ n ih => simp only [sm, ih]; omega
theorem sm_mul (n k : Nat) (f : Nat → Nat) : sm n (fun i => k * f i) = k * sm n f := by
  induction n with
  | zero => rfl
  | succ n ih => simp only [sm, ih, Nat.mul_add]
theorem sm_zero {n : Nat} {f : Nat → Nat} (h : ∀ i, i < n → f i = 0) : sm n f = 0 := by
  induction n with
  | zero => rfl
  | succ n ih => rw [sm, ih (fun i hi => h i (by omega)), h n (by omega)]
theorem sm_le {n : Nat} {f g : Nat → Nat} (h : ∀ i, i < n → f i ≤ g i) : sm n f ≤ sm n g := by
  induction n with
  | zero => exact Nat.le_refl _
  | succ n ih => have := ih (fun i hi => h i (by omega)); have := h n (by omega); simp only [sm]; omega
theorem sm_shift (n : Nat) (f : Nat → Nat) : sm (n + 1) f = f 0 + sm n (fun i => f (i + 1)) := by
  induction n with
  | zero => simp [sm]
  | succ n ih => rw [sm, ih, sm]; omega
theorem sm_swap (n m : Nat) (f : Nat → Nat → Nat) : sm n (fun i => sm m (fun j => f i j)) = sm m (fun j => sm n (fun i => f i j)) := by
  induction n with
  | zero => rw [sm]; exact (sm_zero (fun _ _ => rfl)).symm
  | succ n ih => rw [sm, ih, ← sm_add]; rfl
theorem sm_one {n c : Nat} (hc : c < n) (f : Nat → Nat) : sm n f = f c + sm n (fun i => if i = c then 0 else f i) := by
  induction n with
  | zero => omega
  | succ n ih =>
    by_cases h : c = n
    · subst h
      rw [sm, sm, if_pos rfl, Nat.add_zero, Nat.add_comm]
      congr 1
      exact sm_congr (fun i hi => by rw [if_neg (by omega)])
    · rw [sm, ih (by omega), sm, if_neg (Ne.symm h)]; omega
theorem len_flat {α : Type} (f : Nat → List α) (m : Nat) : ((List.range m).flatMap f).length = sm m (fun i => (f i).length) := by
  induction m with
  | zero => rfl
  | succ m ih => rw [List.range_succ, List.flatMap_append, List.length_append, ih, sm]; simp

/-- one more at c -/
def inc (t : Nat → Nat) (c : Nat) : Nat → Nat := fun i => if i = c then t i + 1 else t i
def dec (t : Nat → Nat) (c : Nat) : Nat → Nat := fun i => if i = c then t i - 1 else t i
theorem inc_dec {t : Nat → Nat} {c d : Nat} (h : 0 < t c) : dec (inc t d) c = if d = c then t else inc (dec t c) d := by
  funext i
  by_cases hd : d = c
  · subst hd
    rw [if_pos rfl]
    unfold dec inc
    by_cases hi : i = d <;> simp [hi]
  · rw [if_neg hd]
    unfold dec inc
    by_cases hi : i = d
    · subst hi; simp [hd]
    · by_cases hj : i = c
      · subst hj; simp [hi]
      · simp [hi, hj]

/-- in how many ways the wants that don't stand yet can be put in; t has how many places each car's list has -/
def kp (n : Nat) : (Nat → Nat) → List Nat → List Bool → Nat
  | t, m :: ms, b :: st => if b then kp n t ms st else sm n (fun c => if bt m c then t c * kp n (inc t c) ms st else 0)
  | _, _, _ => 1
theorem kp_cons (n : Nat) (t : Nat → Nat) (m : Nat) (ms : List Nat) (b : Bool) (st : List Bool) : kp n t (m :: ms) (b :: st) = if b then kp n t ms st else sm n (fun c => if bt m c then t c * kp n (inc t c) ms st else 0) := rfl
theorem kp_all {n : Nat} {t : Nat → Nat} : ∀ {ms : List Nat} {st : List Bool}, (∀ b ∈ st, b = true) → kp n t ms st = 1
  | [], st, _ => by cases st <;> rfl
  | _ :: _, [], _ => rfl
  | m :: ms, b :: st, h => by
    rw [kp_cons, h b (by simp), if_pos rfl]
    exact kp_all (fun b hb => h b (by simp [hb]))
/-- one that can't be put in anywhere -/
theorem kp_none {n : Nat} : ∀ {ms : List Nat} {st : List Bool} {t : Nat → Nat} {i m : Nat}, ms[i]? = some m → st[i]? = some false → (∀ c, c < n → bt m c = true → t c = 0) → kp n t ms st = 0
  | [], _, _, _, _, h, _, _ => by simp at h
  | _ :: _, [], _, _, _, _, h, _ => by simp at h
  | m0 :: ms, b :: st, t, 0, m, h1, h2, h => by
    simp only [List.getElem?_cons_zero, Option.some.injEq] at h1 h2
    subst h1 h2
    rw [kp_cons, if_neg (by simp)]
    refine sm_zero fun c hc => ?_
    by_cases hb : bt m0 c = true
    · rw [if_pos hb, h c hc hb, Nat.zero_mul]
    · rw [if_neg hb]
  | m0 :: ms, b :: st, t, i + 1, m, h1, h2, h => by
    simp only [List.getElem?_cons_succ] at h1 h2
    rw [kp_cons]
    cases b
    · rw [if_neg (by simp)]
      refine sm_zero fun c hc => ?_
      by_cases hb : bt m0 c = true
      · rw [if_pos hb]
        by_cases ht : t c = 0
        · rw [ht, Nat.zero_mul]
        · rw [kp_none (t := inc t c) h1 h2, Nat.mul_zero]
          intro d hd hbd
          have := h d hd hbd
          unfold inc
          by_cases e : d = c
          · subst e; exact absurd this ht
          · rw [if_neg e]; exact this
      · rw [if_neg hb]
    · rw [if_pos rfl]; exact kp_none h1 h2 h
/-- the first of a car's list is one of those that are left, or there is none -/
theorem kp_first {n c0 : Nat} (hc0 : c0 < n) : ∀ {ms : List Nat} {st : List Bool} {t : Nat → Nat}, ms.length = st.length → 0 < t c0 →
    kp n t ms st = kp n (dec t c0) ms st + sm ms.length (fun i => if st[i]? = some false ∧ bt (ms[i]?.getD 0) c0 = true then kp n t ms (st.set i true) else 0)
  | [], [], _, _, _ => rfl
  | [], _ :: _, _, h, _ => by simp at h
  | _ :: _, [], _, h, _ => by simp at h
  | m :: ms, b :: st, t, hl, ht => by
    have hl' : ms.length = st.length := by simpa using hl
    rw [List.length_cons, sm_shift]
    cases b
    · simp only [List.getElem?_cons_zero, List.getElem?_cons_succ, Option.getD_some, List.set_cons_zero, List.set_cons_succ, kp_cons, if_neg (show ¬ (false = true) by simp), if_true, true_and]
      have hL : sm n (fun c => if bt m c = true then t c * kp n (inc t c) ms st else 0) =
          sm n (fun c => (if bt m c = true then t c * kp n (dec (inc t c) c0) ms st else 0) + (if bt m c = true then t c * sm ms.length (fun i => if st[i]? = some false ∧ bt (ms[i]?.getD 0) c0 = true then kp n (inc t c) ms (st.set i true) else 0) else 0)) := by
        refine sm_congr fun c _ => ?_
        by_cases hb : bt m c = true
        · simp only [if_pos hb]
          rw [← Nat.mul_add, ← kp_first hc0 hl' (by unfold inc; split <;> omega)]
        · simp only [if_neg hb]
      rw [hL, sm_add]
      have hA : sm n (fun c => if bt m c = true then t c * kp n (dec (inc t c) c0) ms st else 0) =
          sm n (fun c => if bt m c = true then dec t c0 c * kp n (inc (dec t c0) c) ms st else 0) + (if bt m c0 = true then kp n t ms st else 0) := by
        rw [sm_one hc0, sm_one (n := n) (c := c0) hc0 (fun c => if bt m c = true then dec t c0 c * kp n (inc (dec t c0) c) ms st else 0)]
        have e1 : (if bt m c0 = true then t c0 * kp n (dec (inc t c0) c0) ms st else 0) = (if bt m c0 = true then dec t c0 c0 * kp n (inc (dec t c0) c0) ms st else 0) + (if bt m c0 = true then kp n t ms st else 0) := by
          by_cases hb : bt m c0 = true
          · simp only [if_pos hb]
            rw [inc_dec ht, if_pos rfl]
            have e2 : inc (dec t c0) c0 = t := by
              funext i
              unfold inc dec
              by_cases hi : i = c0
              · subst hi; simp; omega
              · simp [hi]
            rw [e2, show dec t c0 c0 = t c0 - 1 by unfold dec; simp]
            obtain ⟨k, hk⟩ : ∃ k, t c0 = k + 1 := ⟨t c0 - 1, by omega⟩
            rw [hk, Nat.add_sub_cancel, Nat.succ_mul]
          · simp only [if_neg hb]
        have e3 : sm n (fun i => if i = c0 then 0 else if bt m i = true then t i * kp n (dec (inc t i) c0) ms st else 0) = sm n (fun i => if i = c0 then 0 else if bt m i = true then dec t c0 i * kp n (inc (dec t c0) i) ms st else 0) := by
          refine sm_congr fun i _ => ?_
          by_cases hi : i = c0
          · simp only [if_pos hi]
          · simp only [if_neg hi]
            rw [inc_dec ht, if_neg hi, show dec t c0 i = t i by unfold dec; simp [hi]]
        rw [e1, e3]; omega
      have hB : sm n (fun c => if bt m c = true then t c * sm ms.length (fun i => if st[i]? = some false ∧ bt (ms[i]?.getD 0) c0 = true then kp n (inc t c) ms (st.set i true) else 0) else 0) =
          sm ms.length (fun i => if st[i]? = some false ∧ bt (ms[i]?.getD 0) c0 = true then sm n (fun c => if bt m c = true then t c * kp n (inc t c) ms (st.set i true) else 0) else 0) := by
        have e4 : ∀ c, (if bt m c = true then t c * sm ms.length (fun i => if st[i]? = some false ∧ bt (ms[i]?.getD 0) c0 = true then kp n (inc t c) ms (st.set i true) else 0) else 0) =
            sm ms.length (fun i => if bt m c = true then (if st[i]? = some false ∧ bt (ms[i]?.getD 0) c0 = true then t c * kp n (inc t c) ms (st.set i true) else 0) else 0) := by
          intro c
          by_cases hb : bt m c = true
          · simp only [if_pos hb]
            rw [← sm_mul]
            refine sm_congr fun i _ => ?_
            by_cases hq : st[i]? = some false ∧ bt (ms[i]?.getD 0) c0 = true
            · simp only [if_pos hq]
            · simp only [if_neg hq, Nat.mul_zero]
          · simp only [if_neg hb]
            exact (sm_zero fun _ _ => rfl).symm
        rw [sm_congr (fun c _ => e4 c), sm_swap]
        refine sm_congr fun i _ => ?_
        by_cases hq : st[i]? = some false ∧ bt (ms[i]?.getD 0) c0 = true
        · simp only [if_pos hq]
        · simp only [if_neg hq, ite_self]
          exact sm_zero fun _ _ => rfl
      rw [hA, hB]; omega
    · simp only [List.getElem?_cons_zero, List.getElem?_cons_succ, List.set_cons_succ, kp_cons, if_true, Option.some.injEq, Bool.true_eq_false, false_and, if_false, Nat.zero_add]
      exact kp_first hc0 hl' ht
/-- there aren't too many -/
def up : Nat → Nat → Nat
  | _, 0 => 1
  | T, k + 1 => T * up (T + 1) k
theorem up_mono : ∀ (k : Nat) {T T' : Nat}, T ≤ T' → up T k ≤ up T' k
  | 0, _, _, _ => Nat.le_refl _
  | k + 1, _, _, h => Nat.mul_le_mul h (up_mono k (by omega))
theorem sm_inc {n c : Nat} (hc : c < n) (t : Nat → Nat) : sm n (inc t c) = sm n t + 1 := by
  rw [sm_one hc, sm_one hc t]
  have : sm n (fun i => if i = c then 0 else inc t c i) = sm n (fun i => if i = c then 0 else t i) := sm_congr fun i _ => by
    by_cases h : i = c
    · simp only [if_pos h]
    · simp only [if_neg h, inc]
  rw [this, show inc t c c = t c + 1 by unfold inc; simp]; omega
theorem kp_up {n : Nat} : ∀ (ms : List Nat) (t : Nat → Nat) (st : List Bool), (∀ b ∈ st, b = false) → st.length = ms.length → kp n t ms st ≤ up (sm n t) ms.length
  | [], _, [], _, _ => Nat.le_refl _
  | [], _, _ :: _, _, h => by simp at h
  | _ :: _, _, [], _, h => by simp at h
  | m :: ms, t, b :: st, h, hl => by
    rw [kp_cons, h b (by simp), if_neg (by simp), List.length_cons, up]
    have h1 : sm n (fun c => if bt m c = true then t c * kp n (inc t c) ms st else 0) ≤ sm n (fun c => up (sm n t + 1) ms.length * t c) := sm_le fun c hc => by
      by_cases hb : bt m c = true
      · rw [if_pos hb, Nat.mul_comm]
        refine Nat.mul_le_mul_right _ ?_
        rw [← sm_inc hc]
        exact kp_up ms _ st (fun b hb => h b (by simp [hb])) (by simpa using hl)
      · rw [if_neg hb]; exact Nat.zero_le _
    rw [sm_mul, Nat.mul_comm] at h1
    exact h1

end PM
end Go.Proofs.Ytdfdkddjkhcgdah

/- Which plans may be, told in two ways, and all of them in their order. No program is named here. -/
namespace Go.Proofs.Ytdfdkddjkhcgdah
namespace PM

/-- may this number stand in the list of the car c? -/
def okx (ms : List Nat) (c : Nat) (x : Int) : Bool := decide (0 ≤ x) && decide (x < ms.length) && bt (ms[x.toNat]?.getD 0) c
theorem okx_iff {ms : List Nat} {c : Nat} {x : Int} : okx ms c x = true ↔ 0 ≤ x ∧ x < ms.length ∧ bt (ms[x.toNat]?.getD 0) c = true := by
  unfold okx; simp [and_assoc]
/-- 1, if the want stands -/
def nb (st : List Bool) (w : Nat) : Nat := if st[w]? = some true then 1 else 0
theorem nb_set {st : List Bool} {w v : Nat} (hv : v < st.length) (h : st[v]? = some false) : nb (st.set v true) w = nb st w + if w = v then 1 else 0 := by
  unfold nb
  by_cases e : w = v
  · subst e; rw [List.getElem?_set_self hv, h]; simp
  · rw [List.getElem?_set_ne (Ne.symm e)]; simp [e]
theorem nb_true {st : List Bool} {w : Nat} (h : st[w]? = some true) : nb st w = 1 := by unfold nb; rw [if_pos h]
theorem nb_false {st : List Bool} {w : Nat} (h : st[w]? = some false) : nb st w = 0 := by unfold nb; rw [h]; simp
theorem nb_rep (n w : Nat) : nb (List.replicate n false) w = 0 := by
  unfold nb
  rw [List.getElem?_replicate]
  split <;> simp

/-- the program's way: which wants stand -/
def run1 (ms : List Nat) (c : Nat) : List Bool → List Int → Option (List Bool)
  | st, [] => some st
  | st, x :: l => if okx ms c x = true ∧ st[x.toNat]? = some false then run1 ms c (st.set x.toNat true) l else none
def runs (ms : List Nat) : Nat → List Bool → List (List Int) → Option (List Bool)
  | _, st, [] => some st
  | c, st, l :: p => (run1 ms c st l).bind fun st' => runs ms (c + 1) st' p
def feas (ms : List Nat) (p : List (List Int)) : Bool := ((runs ms 0 (List.replicate ms.length false) p).map (fun st => st.all id)).getD false
/-- the document's way: how often each stands -/
def cnt1 (ms : List Nat) (c : Nat) : List Nat → List Int → Option (List Nat)
  | ct, [] => some ct
  | ct, x :: l => if okx ms c x = true then cnt1 ms c (ct.set x.toNat (ct[x.toNat]?.getD 0 + 1)) l else none
def cnts (ms : List Nat) : Nat → List Nat → List (List Int) → Option (List Nat)
  | _, ct, [] => some ct
  | c, ct, l :: p => (cnt1 ms c ct l).bind fun ct' => cnts ms (c + 1) ct' p
def rfeas (ms : List Nat) (p : List (List Int)) : Bool := ((cnts ms 0 (List.replicate ms.length 0) p).map (fun ct => ct.all (· == 1))).getD false
/-- what both say -/
structure Fz (ms : List Nat) (p : List (List Int)) : Prop where
  ok : ∀ (c : Nat) l, p[c]? = some l → ∀ x ∈ l, okx ms c x = true
  once : ∀ w, w < ms.length → p.flatten.count (w : Int) = 1

theorem cast_nat {x : Int} {w : Nat} (hx : 0 ≤ x) : (x = (w : Int)) ↔ w = x.toNat := by omega
theorem run1_some {ms : List Nat} {c : Nat} : ∀ {l : List Int} {st st' : List Bool}, st.length = ms.length → run1 ms c st l = some st' →
    (∀ x ∈ l, okx ms c x = true) ∧ st'.length = ms.length ∧ ∀ w, w < ms.length → nb st' w = nb st w + l.count (w : Int)
  | [], st, st', hl, h => by
    simp only [run1, Option.some.injEq] at h
    subst h
    exact ⟨by simp, hl, by simp⟩
  | x :: l, st, st', hl, h => by
    rw [run1] at h
    split at h
    · rename_i hq
      obtain ⟨h1, h2, h3⟩ := run1_some (by rw [List.length_set]; exact hl) h
      obtain ⟨k1, k2, _⟩ := okx_iff.1 hq.1
      refine ⟨fun y hy => ?_, h2, fun w hw => ?_⟩
      · rcases List.mem_cons.1 hy with rfl | hy
        · exact hq.1
        · exact h1 y hy
      · rw [h3 w hw, nb_set (by omega) hq.2, List.count_cons]
        have : (x == (w : Int)) = decide (w = x.toNat) := by
          rw [Bool.eq_iff_iff]; simp [cast_nat k1]
        rw [this]
        simp only [decide_eq_true_eq]
        omega
    · cases h
theorem run1_ok {ms : List Nat} {c : Nat} : ∀ {l : List Int} {st : List Bool}, st.length = ms.length → (∀ x ∈ l, okx ms c x = true) → (∀ w, w < ms.length → nb st w + l.count (w : Int) ≤ 1) → ∃ st', run1 ms c st l = some st'
  | [], st, _, _, _ => ⟨st, rfl⟩
  | x :: l, st, hl, hk, hc => by
    obtain ⟨k1, k2, _⟩ := okx_iff.1 (hk x (by simp))
    have hcx := hc x.toNat (by omega)
    rw [Int.toNat_of_nonneg k1, List.count_cons_self] at hcx
    have hst : st[x.toNat]? = some false := by
      have hlt : x.toNat < st.length := by omega
      rw [List.getElem?_eq_getElem hlt]
      cases e : st[x.toNat]
      · rfl
      · exfalso
        have : nb st x.toNat = 1 := nb_true (by rw [List.getElem?_eq_getElem hlt, e])
        omega
    rw [run1, if_pos ⟨hk x (by simp), hst⟩]
    refine run1_ok (by rw [List.length_set]; exact hl) (fun y hy => hk y (by simp [hy])) fun w hw => ?_
    rw [nb_set (by omega) hst]
    have := hc w hw
    rw [List.count_cons] at this
    have e : (x == (w : Int)) = decide (w = x.toNat) := by
      rw [Bool.eq_iff_iff]; simp [cast_nat k1]
    rw [e] at this
    simp only [decide_eq_true_eq] at this
    omega
theorem runs_some {ms : List Nat} : ∀ {p : List (List Int)} {c : Nat} {st st' : List Bool}, st.length = ms.length → runs ms c st p = some st' →
    (∀ (d : Nat) l, p[d]? = some l → ∀ x ∈ l, okx ms (c + d) x = true) ∧ st'.length = ms.length ∧ ∀ w, w < ms.length → nb st' w = nb st w + p.flatten.count (w : Int)
  | [], c, st, st', hl, h => by
    simp only [runs, Option.some.injEq] at h
    subst h
    exact ⟨by simp, hl, by simp⟩
  | l :: p, c, st, st', hl, h => by
    rw [runs, Option.bind_eq_some_iff] at h
    obtain ⟨s1, h1, h2⟩ := h
    obtain ⟨a1, a2, a3⟩ := run1_some hl h1
    obtain ⟨b1, b2, b3⟩ := runs_some a2 h2
    refine ⟨fun d l' hd x hx => ?_, b2, fun w hw => ?_⟩
    · cases d with
      | zero => simp only [List.getElem?_cons_zero, Option.some.injEq] at hd; subst hd; exact a1 x hx
      | succ d =>
        rw [List.getElem?_cons_succ] at hd
        have := b1 d l' hd x hx
        rwa [show c + 1 + d = c + (d + 1) by omega] at this
    · rw [b3 w hw, a3 w hw, List.flatten_cons, List.count_append]; omega
theorem runs_ok {ms : List Nat} : ∀ {p : List (List Int)} {c : Nat} {st : List Bool}, st.length = ms.length → (∀ (d : Nat) l, p[d]? = some l → ∀ x ∈ l, okx ms (c + d) x = true) → (∀ w, w < ms.length → nb st w + p.flatten.count (w : Int) ≤ 1) → ∃ st', runs ms c st p = some st'
  | [], _, st, _, _, _ => ⟨st, rfl⟩
  | l :: p, c, st, hl, hk, hc => by
    obtain ⟨s1, h1⟩ := run1_ok (c := c) hl (hk 0 l rfl) (fun w hw => by have := hc w hw; rw [List.flatten_cons, List.count_append] at this; omega)
    obtain ⟨_, a2, a3⟩ := run1_some hl h1
    rw [runs, h1]
    refine runs_ok a2 (fun d l' hd x hx => ?_) (fun w hw => ?_)
    · have := hk (d + 1) l' hd x hx
      rwa [show c + (d + 1) = c + 1 + d by omega] at this
    · have := hc w hw
      rw [List.flatten_cons, List.count_append] at this
      rw [a3 w hw]; omega
theorem feas_iff {ms : List Nat} {p : List (List Int)} : feas ms p = true ↔ Fz ms p := by
  unfold feas
  constructor
  · intro h
    cases e : runs ms 0 (List.replicate ms.length false) p with
    | none => rw [e] at h; simp at h
    | some st =>
      rw [e] at h
      simp only [Option.map_some, Option.getD_some] at h
      obtain ⟨h1, h2, h3⟩ := runs_some (by simp) e
      refine ⟨fun c l hl x hx => by have := h1 c l hl x hx; rwa [Nat.zero_add] at this, fun w hw => ?_⟩
      have h4 := h3 w hw
      rw [nb_rep, Nat.zero_add] at h4
      rw [← h4]
      refine nb_true ?_
      rw [List.getElem?_eq_getElem (by omega)]
      have := List.all_eq_true.1 h (st[w]'(by omega)) (List.getElem_mem _)
      rw [id_eq] at this
      rw [this]
  · intro h
    obtain ⟨st, e⟩ := runs_ok (ms := ms) (c := 0) (st := List.replicate ms.length false) (by simp) (fun d l hd x hx => by rw [Nat.zero_add]; exact h.ok d l hd x hx) (fun w hw => by rw [nb_rep, h.once w hw]; omega)
    obtain ⟨_, h2, h3⟩ := runs_some (ms := ms) (by simp) e
    rw [e]
    simp only [Option.map_some, Option.getD_some]
    refine List.all_eq_true.2 fun b hb => ?_
    obtain ⟨i, hi, rfl⟩ := List.getElem_of_mem hb
    have := h3 i (by omega)
    rw [nb_rep, h.once i (by omega)] at this
    unfold nb at this
    split at this
    · rename_i hq
      rw [List.getElem?_eq_getElem hi] at hq
      simpa using hq
    · omega
theorem cnt1_len {ms : List Nat} {c : Nat} : ∀ {l : List Int} {ct ct' : List Nat}, ct.length = ms.length → cnt1 ms c ct l = some ct' →
    (∀ x ∈ l, okx ms c x = true) ∧ ct'.length = ms.length ∧ ∀ w, w < ms.length → ct'[w]?.getD 0 = ct[w]?.getD 0 + l.count (w : Int)
  | [], ct, ct', hl, h => by
    simp only [cnt1, Option.some.injEq] at h
    subst h
    exact ⟨by simp, hl, by simp⟩
  | x :: l, ct, ct', hl, h => by
    rw [cnt1] at h
    split at h
    · rename_i hq
      obtain ⟨h1, h2, h3⟩ := cnt1_len (by rw [List.length_set]; exact hl) h
      obtain ⟨k1, k2, _⟩ := okx_iff.1 hq
      refine ⟨fun y hy => ?_, h2, fun w hw => ?_⟩
      · rcases List.mem_cons.1 hy with rfl | hy
        · exact hq
        · exact h1 y hy
      · rw [h3 w hw, List.count_cons]
        have : (x == (w : Int)) = decide (w = x.toNat) := by
          rw [Bool.eq_iff_iff]; simp [cast_nat k1]
        rw [this]
        simp only [decide_eq_true_eq]
        by_cases e : w = x.toNat
        · rw [← e, List.getElem?_set_self (by omega)]; simp; omega
        · rw [List.getElem?_set_ne (Ne.symm e), if_neg e]; omega
    · cases h
theorem cnt1_ok {ms : List Nat} {c : Nat} : ∀ {l : List Int} {ct : List Nat}, (∀ x ∈ l, okx ms c x = true) → ∃ ct', cnt1 ms c ct l = some ct'
  | [], ct, _ => ⟨ct, rfl⟩
  | x :: l, ct, hk => by
    rw [cnt1, if_pos (hk x (by simp))]
    exact cnt1_ok fun y hy => hk y (by simp [hy])
theorem cnts_some {ms : List Nat} : ∀ {p : List (List Int)} {c : Nat} {ct ct' : List Nat}, ct.length = ms.length → cnts ms c ct p = some ct' →
    (∀ (d : Nat) l, p[d]? = some l → ∀ x ∈ l, okx ms (c + d) x = true) ∧ ct'.length = ms.length ∧ ∀ w, w < ms.length → ct'[w]?.getD 0 = ct[w]?.getD 0 + p.flatten.count (w : Int)
  | [], c, ct, ct', hl, h => by
    simp only [cnts, Option.some.injEq] at h
    subst h
    exact ⟨by simp, hl, by simp⟩
  | l :: p, c, ct, ct', hl, h => by
    rw [cnts, Option.bind_eq_some_iff] at h
    obtain ⟨s1, h1, h2⟩ := h
    obtain ⟨a1, a2, a3⟩ := cnt1_len hl h1
    obtain ⟨b1, b2, b3⟩ := cnts_some a2 h2
    refine ⟨fun d l' hd x hx => ?_, b2, fun w hw => ?_⟩
    · cases d with
      | zero => simp only [List.getElem?_cons_zero, Option.some.injEq] at hd; subst hd; exact a1 x hx
      | succ d =>
        rw [List.getElem?_cons_succ] at hd
        have := b1 d l' hd x hx
        rwa [show c + 1 + d = c + (d + 1) by omega] at this
    · rw [b3 w hw, a3 w hw, List.flatten_cons, List.count_append]; omega
theorem cnts_ok {ms : List Nat} : ∀ {p : List (List Int)} {c : Nat} {ct : List Nat}, (∀ (d : Nat) l, p[d]? = some l → ∀ x ∈ l, okx ms (c + d) x = true) → ∃ ct', cnts ms c ct p = some ct'
  | [], _, ct, _ => ⟨ct, rfl⟩
  | l :: p, c, ct, hk => by
    obtain ⟨s1, h1⟩ := cnt1_ok (c := c) (ct := ct) (hk 0 l rfl)
    rw [cnts, h1]
    refine cnts_ok fun d l' hd x hx => ?_
    have := hk (d + 1) l' hd x hx
    rwa [show c + (d + 1) = c + 1 + d by omega] at this
theorem rfeas_iff {ms : List Nat} {p : List (List Int)} : rfeas ms p = true ↔ Fz ms p := by
  unfold rfeas
  constructor
  · intro h
    cases e : cnts ms 0 (List.replicate ms.length 0) p with
    | none => rw [e] at h; simp at h
    | some ct =>
      rw [e] at h
      simp only [Option.map_some, Option.getD_some] at h
      obtain ⟨h1, h2, h3⟩ := cnts_some (by simp) e
      refine ⟨fun c l hl x hx => by have := h1 c l hl x hx; rwa [Nat.zero_add] at this, fun w hw => ?_⟩
      have h4 := h3 w hw
      rw [List.getElem?_eq_getElem (by omega), List.getElem?_replicate_of_lt hw, Option.getD_some, Option.getD_some, Nat.zero_add] at h4
      rw [← h4]
      simpa using List.all_eq_true.1 h (ct[w]'(by omega)) (List.getElem_mem _)
  · intro h
    obtain ⟨ct, e⟩ := cnts_ok (c := 0) (ct := List.replicate ms.length 0) (fun d l hd x hx => by rw [Nat.zero_add]; exact h.ok d l hd x hx)
    obtain ⟨_, h2, h3⟩ := cnts_some (by simp) e
    rw [e]
    simp only [Option.map_some, Option.getD_some]
    refine List.all_eq_true.2 fun b hb => ?_
    obtain ⟨i, hi, rfl⟩ := List.getElem_of_mem hb
    have := h3 i (by omega)
    rw [List.getElem?_eq_getElem hi, List.getElem?_replicate_of_lt (by omega), Option.getD_some, Option.getD_some, Nat.zero_add, h.once i (by omega)] at this
    simp [this]
theorem feas_rfeas (ms : List Nat) (p : List (List Int)) : feas ms p = rfeas ms p := by
  rw [Bool.eq_iff_iff, feas_iff, rfeas_iff]

/-- may the list of the car c end? (asked of the first k wants) -/
def meTo (ms : List Nat) (st : List Bool) (c k : Nat) : Bool := (List.range k).all fun w => !(st[w]? == some false && (ms[w]?.getD 0) / 2 ^ (c + 1) == 0)
theorem meTo_succ (ms : List Nat) (st : List Bool) (c k : Nat) : meTo ms st c (k + 1) = (meTo ms st c k && !(st[k]? == some false && (ms[k]?.getD 0) / 2 ^ (c + 1) == 0)) := by
  unfold meTo; rw [List.range_succ, List.all_append]; simp
theorem meTo_iff {ms : List Nat} {st : List Bool} {c k : Nat} : meTo ms st c k = true ↔ ∀ w, w < k → st[w]? = some false → (ms[w]?.getD 0) / 2 ^ (c + 1) ≠ 0 := by
  unfold meTo
  rw [List.all_eq_true]
  constructor
  · intro h w hw hs e
    have := h w (List.mem_range.2 hw)
    simp [hs] at this
    simp at e
    omega
  · intro h w hw
    have := h w (List.mem_range.1 hw)
    by_cases hs : st[w]? = some false
    · have := this hs
      simp [hs]
      simp at this
      omega
    · simp [hs]
theorem meTo_false {ms : List Nat} {st : List Bool} {c k j : Nat} (h : meTo ms st c k = false) (hk : k ≤ j) : meTo ms st c j = false := by
  cases e : meTo ms st c j
  · rfl
  · rw [meTo_iff.2 fun w hw => meTo_iff.1 e w (by omega)] at h; cases h
/-- a want at the end of a list -/
def add (ls : List (List Int)) (c : Nat) (x : Int) : List (List Int) := ls.set c (ls[c]?.getD [] ++ [x])
/-- the wants that the car c may take -/
def gen (n : Nat) (ms : List Nat) : Nat → Nat → List Bool → List (List Int) → List (List (List Int))
  | 0, _, _, ls => [ls]
  | k + 1, c, st, ls => if c = n then [ls] else
      ((List.range ms.length).flatMap fun w => if st[w]? = some false ∧ bt (ms[w]?.getD 0) c = true then gen n ms k c (st.set w true) (add ls c w) else []) ++
        (if meTo ms st c ms.length = true then gen n ms k (c + 1) st ls else [])
/-- how many don't stand -/
def lf (st : List Bool) : Nat := st.count false
theorem lf_set : ∀ {st : List Bool} {w : Nat}, st[w]? = some false → lf (st.set w true) + 1 = lf st
  | [], _, h => by simp at h
  | b :: st, 0, h => by simp at h; subst h; simp [lf]
  | b :: st, w + 1, h => by
    have := lf_set (st := st) (w := w) (by simpa using h)
    unfold lf at this ⊢
    rw [List.set_cons_succ, List.count_cons, List.count_cons]
    omega
/-- what holds of a plan on its way -/
structure Iv (n : Nat) (ms : List Nat) (c : Nat) (st : List Bool) (ls : List (List Int)) : Prop where
  ll : ls.length = n
  sl : st.length = ms.length
  cl : c ≤ n
  ok : ∀ (d : Nat) l, ls[d]? = some l → ∀ x ∈ l, okx ms d x = true
  cn : ∀ w, w < ms.length → ls.flatten.count (w : Int) = nb st w
  em : ∀ d, c < d → ls[d]?.getD [] = []
  en : c = n → ∀ b ∈ st, b = true
theorem count_add : ∀ {ls : List (List Int)} {c : Nat} {x y : Int}, c < ls.length → (add ls c x).flatten.count y = ls.flatten.count y + if x = y then 1 else 0
  | [], _, _, _, h => by simp at h
  | l :: ls, 0, x, y, _ => by
    simp only [add, List.getElem?_cons_zero, Option.getD_some, List.set_cons_zero, List.flatten_cons, List.count_append, List.count_singleton]
    by_cases e : x = y
    · subst e; simp; omega
    · simp [e, beq_eq_false_iff_ne.2 e]
  | l :: ls, c + 1, x, y, h => by
    have := count_add (ls := ls) (c := c) (x := x) (y := y) (by simpa using h)
    simp only [add, List.getElem?_cons_succ, List.set_cons_succ, List.flatten_cons, List.count_append] at this ⊢
    omega
section
variable {n : Nat} {ms : List Nat} {c : Nat} {st : List Bool} {ls : List (List Int)}
theorem Iv.take (h : Iv n ms c st ls) (hc : c ≠ n) {w : Nat} (hs : st[w]? = some false) (hb : bt (ms[w]?.getD 0) c = true) : Iv n ms c (st.set w true) (add ls c w) := by
  have hw : w < st.length := (List.getElem?_eq_some_iff.1 hs).1
  have hcl : c < ls.length := by have := h.cl; have := h.ll; omega
  refine ⟨by unfold add; rw [List.length_set]; exact h.ll, by rw [List.length_set]; exact h.sl, h.cl, fun d l hd x hx => ?_, fun v hv => ?_, fun d hd => ?_, fun e => absurd e hc⟩
  · unfold add at hd
    by_cases e : c = d
    · subst e
      rw [List.getElem?_set_self hcl] at hd
      simp only [Option.some.injEq] at hd
      subst hd
      rcases List.mem_append.1 hx with hx | hx
      · rw [List.getElem?_eq_getElem hcl] at hx
        exact h.ok c _ (List.getElem?_eq_getElem hcl) x hx
      · simp at hx
        subst hx
        rw [okx_iff]
        have := h.sl
        exact ⟨by omega, by omega, by simpa using hb⟩
    · rw [List.getElem?_set_ne e] at hd
      exact h.ok d l hd x hx
  · rw [count_add hcl, h.cn v hv, nb_set hw hs]
    congr 1
    by_cases e : v = w
    · subst e; simp
    · rw [if_neg e, if_neg (by omega)]
  · unfold add
    rw [List.getElem?_set_ne (by omega)]
    exact h.em d hd
theorem Iv.done (h : Iv n ms c st ls) (hc : c ≠ n) (hm : ∀ m ∈ ms, m < 2 ^ n) (he : meTo ms st c ms.length = true) : Iv n ms (c + 1) st ls := by
  refine ⟨h.ll, h.sl, by have := h.cl; omega, h.ok, h.cn, fun d hd => h.em d (by omega), fun e b hb => ?_⟩
  obtain ⟨i, hi, rfl⟩ := List.getElem_of_mem hb
  cases hq : st[i]
  · exfalso
    have hsl := h.sl
    have := meTo_iff.1 he i (by omega) (by rw [List.getElem?_eq_getElem hi, hq])
    rw [e, List.getElem?_eq_getElem (by omega), Option.getD_some] at this
    exact this (Nat.div_eq_of_lt (hm _ (List.getElem_mem _)))
  · rfl
theorem Iv.zero (n : Nat) (hn : 0 < n) (ms : List Nat) : Iv n ms 0 (List.replicate ms.length false) (List.replicate n []) := by
  refine ⟨by simp, by simp, by omega, fun d l hd x hx => ?_, fun w hw => ?_, fun d _ => ?_, fun e => by omega⟩
  · rw [List.getElem?_replicate] at hd
    split at hd
    · simp at hd; subst hd; simp at hx
    · cases hd
  · rw [nb_rep]
    simp
  · rw [List.getElem?_replicate]
    split <;> rfl
theorem gen_end {k : Nat} (hc : c = n) : gen n ms k c st ls = [ls] := by
  cases k with
  | zero => rfl
  | succ k => rw [gen, if_pos hc]
theorem gen_more {k : Nat} (hk : n - c + lf st ≤ k) (h : Iv n ms c st ls) (hc : c ≠ n) : ∃ j, k = j + 1 := by
  cases k with
  | zero => have := h.cl; omega
  | succ k => exact ⟨k, rfl⟩
theorem fuel_take {k w : Nat} (hk : n - c + lf st ≤ k + 1) (hs : st[w]? = some false) : n - c + lf (st.set w true) ≤ k := by
  have := lf_set hs; omega
theorem fuel_done {k : Nat} (hk : n - c + lf st ≤ k + 1) (h : Iv n ms c st ls) (hc : c ≠ n) : n - (c + 1) + lf st ≤ k := by
  have := h.cl; omega
end
theorem gen_fz {n : Nat} {ms : List Nat} (hm : ∀ m ∈ ms, m < 2 ^ n) : ∀ {k c : Nat} {st : List Bool} {ls : List (List Int)}, n - c + lf st ≤ k → Iv n ms c st ls → ∀ p ∈ gen n ms k c st ls, Fz ms p ∧ p.length = n := by
  intro k
  induction k with
  | zero =>
    intro c st ls hk h p hp
    have hc : c = n := by have := h.cl; omega
    rw [gen_end hc] at hp
    simp at hp
    subst hp
    refine ⟨⟨h.ok, fun w hw => ?_⟩, h.ll⟩
    rw [h.cn w hw]
    have hsl := h.sl
    exact nb_true (by rw [List.getElem?_eq_getElem (by omega), h.en hc _ (List.getElem_mem _)])
  | succ k ih =>
    intro c st ls hk h p hp
    by_cases hc : c = n
    · rw [gen_end hc] at hp
      simp at hp
      subst hp
      refine ⟨⟨h.ok, fun w hw => ?_⟩, h.ll⟩
      rw [h.cn w hw]
      have hsl := h.sl
      exact nb_true (by rw [List.getElem?_eq_getElem (by omega), h.en hc _ (List.getElem_mem _)])
    · rw [gen, if_neg hc] at hp
      rcases List.mem_append.1 hp with hp | hp
      · obtain ⟨w, _, hp⟩ := List.mem_flatMap.1 hp
        split at hp
        · rename_i hq
          exact ih (fuel_take hk hq.1) (h.take hc hq.1 hq.2) p hp
        · simp at hp
      · split at hp
        · rename_i hq
          exact ih (fuel_done hk h hc) (h.done hc hm hq) p hp
        · simp at hp

/-- the places of the lists from the car c on -/
def tt (c : Nat) : Nat → Nat := fun i => if c ≤ i then 1 else 0
theorem tt_dec (c : Nat) : dec (tt c) c = tt (c + 1) := by
  funext i
  unfold dec tt
  by_cases h : i = c
  · subst h; simp
  · rw [if_neg h]
    by_cases h2 : c ≤ i
    · rw [if_pos h2, if_pos (by omega)]
    · rw [if_neg h2, if_neg (by omega)]
theorem gen_len {n : Nat} {ms : List Nat} (hm : ∀ m ∈ ms, m < 2 ^ n) : ∀ {k c : Nat} {st : List Bool} {ls : List (List Int)}, n - c + lf st ≤ k → Iv n ms c st ls → (gen n ms k c st ls).length = kp n (tt c) ms st := by
  intro k
  induction k with
  | zero =>
    intro c st ls hk h
    have hc : c = n := by have := h.cl; omega
    rw [gen_end hc, kp_all (h.en hc)]; rfl
  | succ k ih =>
    intro c st ls hk h
    by_cases hc : c = n
    · rw [gen_end hc, kp_all (h.en hc)]; rfl
    · rw [gen, if_neg hc, List.length_append, len_flat, kp_first (c0 := c) (by have := h.cl; omega) h.sl.symm (by unfold tt; simp), tt_dec, Nat.add_comm]
      congr 1
      · split
        · rename_i hq
          exact ih (fuel_done hk h hc) (h.done hc hm hq)
        · rename_i hq
          rw [meTo_iff] at hq
          have : ∃ w, w < ms.length ∧ st[w]? = some false ∧ (ms[w]?.getD 0) / 2 ^ (c + 1) = 0 := by
            apply Classical.byContradiction
            intro hn
            exact hq fun w hw hs e => hn ⟨w, hw, hs, e⟩
          obtain ⟨w, hw, hs, e⟩ := this
          rw [List.getElem?_eq_getElem hw, Option.getD_some] at e
          exact (kp_none (List.getElem?_eq_getElem hw) hs fun d _ hb => by
            unfold tt
            by_cases hd : c + 1 ≤ d
            · rw [bt_high e hd] at hb; cases hb
            · rw [if_neg hd]).symm
      · refine sm_congr fun w _ => ?_
        split
        · rename_i hq
          exact ih (fuel_take hk hq.1) (h.take hc hq.1 hq.2)
        · rfl

/-- a plan as numbers -/
def wr (m : Nat) (p : List (List Int)) : List Int := p.flatMap fun l => l ++ [(m : Int)]
/-- which of two writings is less -/
def lx : List Int → List Int → Bool
  | [], [] => false
  | [], _ :: _ => true
  | _ :: _, [] => false
  | a :: x, b :: y => if a = b then lx x y else decide (a < b)
theorem lx_pre (q : List Int) {a b : Int} (h : a < b) (x y : List Int) : lx (q ++ a :: x) (q ++ b :: y) = true := by
  induction q with
  | nil => simp only [List.nil_append, lx]; rw [if_neg (by omega)]; simp [h]
  | cons d q ih => simp only [List.cons_append, lx, if_true]; exact ih
/-- how all that go on from here begin -/
def pf (m c : Nat) (ls : List (List Int)) : List Int := wr m (ls.take c) ++ ls[c]?.getD []
theorem pf_take {m c : Nat} {ls : List (List Int)} (h : c < ls.length) (x : Int) : pf m c (add ls c x) = pf m c ls ++ [x] := by
  unfold pf add
  rw [List.take_set_of_le (Nat.le_refl _), List.getElem?_set_self h, Option.getD_some, List.append_assoc]
theorem pf_done {m c : Nat} {ls : List (List Int)} (h : c < ls.length) (he : ls[c + 1]?.getD [] = []) : pf m (c + 1) ls = pf m c ls ++ [(m : Int)] := by
  unfold pf wr
  rw [he, List.append_nil, List.take_add_one, List.getElem?_eq_getElem h, List.flatMap_append]
  simp
theorem gen_pf {n : Nat} {ms : List Nat} (hm : ∀ m ∈ ms, m < 2 ^ n) : ∀ {k c : Nat} {st : List Bool} {ls : List (List Int)}, n - c + lf st ≤ k → Iv n ms c st ls → ∀ p ∈ gen n ms k c st ls, ∃ r, wr ms.length p = pf ms.length c ls ++ r := by
  intro k
  induction k with
  | zero =>
    intro c st ls hk h p hp
    have hc : c = n := by have := h.cl; omega
    rw [gen_end hc] at hp
    simp at hp
    subst hp
    refine ⟨[], ?_⟩
    have hl := h.ll
    unfold pf
    rw [List.take_of_length_le (by omega), List.getElem?_eq_none (by omega)]; simp
  | succ k ih =>
    intro c st ls hk h p hp
    by_cases hc : c = n
    · rw [gen_end hc] at hp
      simp at hp
      subst hp
      refine ⟨[], ?_⟩
      have hl := h.ll
      unfold pf
      rw [List.take_of_length_le (by omega), List.getElem?_eq_none (by omega)]; simp
    · have hcl : c < ls.length := by have := h.cl; have := h.ll; omega
      rw [gen, if_neg hc] at hp
      rcases List.mem_append.1 hp with hp | hp
      · obtain ⟨w, _, hp⟩ := List.mem_flatMap.1 hp
        split at hp
        · rename_i hq
          obtain ⟨r, hr⟩ := ih (fuel_take hk hq.1) (h.take hc hq.1 hq.2) p hp
          exact ⟨[(w : Int)] ++ r, by rw [hr, pf_take hcl, List.append_assoc]⟩
        · simp at hp
      · split at hp
        · rename_i hq
          obtain ⟨r, hr⟩ := ih (fuel_done hk h hc) (h.done hc hm hq) p hp
          exact ⟨[(ms.length : Int)] ++ r, by rw [hr, pf_done hcl (h.em _ (by omega)), List.append_assoc]⟩
        · simp at hp
theorem range_pw {R : Nat → Nat → Prop} (h : ∀ a b, a < b → R a b) (m : Nat) : (List.range m).Pairwise R := by
  induction m with
  | zero => simp
  | succ m ih =>
    rw [List.range_succ, List.pairwise_append]
    refine ⟨ih, by simp, fun a ha b hb => ?_⟩
    simp at ha hb
    subst hb
    exact h a b ha
theorem gen_sorted {n : Nat} {ms : List Nat} (hm : ∀ m ∈ ms, m < 2 ^ n) : ∀ {k c : Nat} {st : List Bool} {ls : List (List Int)}, n - c + lf st ≤ k → Iv n ms c st ls →
    (gen n ms k c st ls).Pairwise fun p q => lx (wr ms.length p) (wr ms.length q) = true := by
  intro k
  induction k with
  | zero =>
    intro c st ls hk h
    rw [gen_end (by have := h.cl; omega)]; simp
  | succ k ih =>
    intro c st ls hk h
    by_cases hc : c = n
    · rw [gen_end hc]; simp
    · have hcl : c < ls.length := by have := h.cl; have := h.ll; omega
      rw [gen, if_neg hc, List.pairwise_append, List.pairwise_flatMap]
      refine ⟨⟨fun w _ => ?_, range_pw (fun a b hab x hx y hy => ?_) _⟩, ?_, fun x hx y hy => ?_⟩
      · split
        · rename_i hq
          exact ih (fuel_take hk hq.1) (h.take hc hq.1 hq.2)
        · simp
      · split at hx
        · rename_i hq
          split at hy
          · rename_i hq'
            obtain ⟨r, hr⟩ := gen_pf hm (fuel_take hk hq.1) (h.take hc hq.1 hq.2) x hx
            obtain ⟨s, hs⟩ := gen_pf hm (fuel_take hk hq'.1) (h.take hc hq'.1 hq'.2) y hy
            rw [hr, hs, pf_take hcl, pf_take hcl, List.append_assoc, List.append_assoc]
            exact lx_pre _ (by omega) _ _
          · simp at hy
        · simp at hx
      · split
        · rename_i hq
          exact ih (fuel_done hk h hc) (h.done hc hm hq)
        · simp
      · obtain ⟨w, hw, hx⟩ := List.mem_flatMap.1 hx
        split at hx
        · rename_i hq
          split at hy
          · rename_i hq'
            obtain ⟨r, hr⟩ := gen_pf hm (fuel_take hk hq.1) (h.take hc hq.1 hq.2) x hx
            obtain ⟨s, hs⟩ := gen_pf hm (fuel_done hk h hc) (h.done hc hm hq') y hy
            rw [hr, hs, pf_take hcl, pf_done hcl (h.em _ (by omega)), List.append_assoc, List.append_assoc]
            exact lx_pre _ (by have := List.mem_range.1 hw; omega) _ _
          · simp at hy
        · simp at hx

end PM
end Go.Proofs.Ytdfdkddjkhcgdah

/- Routes: when a car is at its stops. No program is named here. -/
namespace Go.Proofs.Ytdfdkddjkhcgdah
namespace RM
open SM

/-- a stop: a floor, when the car is here (-1: no stop yet), when it goes on -/
structure Sp where
  fl : Int
  he : Int
  le : Int
/-- how long a stop takes -/
def dw (s : St) : Int := s.opn + s.wai + s.clo + 2
/-- where a route begins -/
def bg (r : Int × Int) : Sp := ⟨r.1, -1, r.2⟩
/-- when a car is at a floor that is the next one -/
def ar (s : St) (a : Sp) (f : Int) : Int := if a.he ≠ -1 ∧ a.fl = f then a.he else a.le + trav s a.fl f
/-- the next stop -/
def nx (s : St) (a : Sp) (f : Int) : Sp := if a.he ≠ -1 ∧ a.fl = f then a else ⟨f, a.le + trav s a.fl f, a.le + trav s a.fl f + dw s⟩
/-- a stop of a route -/
structure Ok (s : St) (a : Sp) : Prop where
  f0 : 0 ≤ a.fl
  f1 : a.fl < s.fl
  l0 : 0 ≤ a.le
  hh : a.he = -1 ∨ (0 ≤ a.he ∧ a.le = a.he + dw s)
section
variable {s : St} {a b c : Sp} {f : Int}
theorem dw_bd (r : Rt s) : 5 ≤ dw s ∧ dw s ≤ 3002 := by
  have := r.opn1; have := r.opn2; have := r.wai1; have := r.wai2; have := r.clo1; have := r.clo2
  unfold dw; omega
theorem bg_ok {r : Int × Int} (h0 : 0 ≤ r.1) (h1 : r.1 < s.fl) (h2 : 0 ≤ r.2) : Ok s (bg r) := ⟨h0, h1, h2, .inl rfl⟩
theorem nx_eq (ok : Ok s a) (f : Int) : nx s a f = ⟨f, ar s a f, ar s a f + dw s⟩ := by
  unfold nx ar
  by_cases h : a.he ≠ -1 ∧ a.fl = f
  · simp only [if_pos h]
    rcases ok.hh with h1 | ⟨_, h1⟩
    · exact absurd h1 h.1
    · obtain ⟨x, y, z⟩ := a
      simp only at h h1
      rw [h1, h.2]
  · simp only [if_neg h]
theorem ar_nn (r : Rt s) (ok : Ok s a) (f : Int) : 0 ≤ ar s a f := by
  unfold ar
  split
  · rename_i h
    rcases ok.hh with h1 | ⟨h1, _⟩
    · exact absurd h1 h.1
    · exact h1
  · have := ok.l0; have := (trav_bd r a.fl f).1; omega
theorem ar_le (r : Rt s) (ok : Ok s a) (f : Int) : ar s a f ≤ a.le + 65000 := by
  unfold ar
  split
  · rename_i h
    rcases ok.hh with h1 | ⟨h1, h2⟩
    · exact absurd h1 h.1
    · have := dw_bd r; omega
  · have := (trav_bd r a.fl f).2; omega
/-- no stop is earlier than the one ahead -/
theorem ar_he (r : Rt s) (ok : Ok s a) (f : Int) : a.he ≤ ar s a f := by
  unfold ar
  split
  · omega
  · have := (trav_bd r a.fl f).1
    have := dw_bd r
    rcases ok.hh with h1 | ⟨h1, h2⟩
    · have := ok.l0; omega
    · omega
theorem nx_ok (r : Rt s) (ok : Ok s a) (h0 : 0 ≤ f) (h1 : f < s.fl) : Ok s (nx s a f) := by
  rw [nx_eq ok]
  have hn := ar_nn r ok f
  have := dw_bd r
  exact ⟨h0, h1, by show 0 ≤ ar s a f + dw s; omega, .inr ⟨hn, rfl⟩⟩
/-- when a car is somewhere behind a stop -/
theorem ar_nx (r : Rt s) (ok : Ok s a) (f g : Int) : ar s (nx s a f) g = if f = g then ar s a f else ar s a f + dw s + trav s f g := by
  rw [nx_eq ok]
  have := ar_nn r ok f
  unfold ar at this ⊢
  simp only
  by_cases e : f = g
  · rw [if_pos ⟨by omega, e⟩, if_pos e]
  · rw [if_neg (fun h => e h.2), if_neg e]

/-- at no floor any later -/
def Le (s : St) (a b : Sp) : Prop := ∀ f, 0 ≤ f → f < s.fl → ar s a f ≤ ar s b f
theorem Le.refl (s : St) (a : Sp) : Le s a a := fun _ _ _ => Int.le_refl _
theorem Le.trans (h : Le s a b) (k : Le s b c) : Le s a c := fun f h0 h1 => Int.le_trans (h f h0 h1) (k f h0 h1)
theorem Le.nx (r : Rt s) (oa : Ok s a) (ob : Ok s b) (h : Le s a b) (h0 : 0 ≤ f) (h1 : f < s.fl) : Le s (nx s a f) (nx s b f) := fun g _ _ => by
  rw [ar_nx r oa, ar_nx r ob]
  have := h f h0 h1
  split <;> omega
/-- a stop on the way makes no other one earlier -/
theorem le_nx (r : Rt s) (ok : Ok s a) (h0 : 0 ≤ f) (h1 : f < s.fl) : Le s a (nx s a f) := fun g g0 g1 => by
  rw [ar_nx r ok]
  by_cases e : f = g
  · rw [if_pos e, e]; exact Int.le_refl _
  · rw [if_neg e]
    have hd := dw_bd r
    have ht := (trav_bd r f g).1
    have h2 := trav_bd r a.fl f
    have h3 := trav_bd r a.fl g
    have h4 := trav_tri r (a := a.fl) (b := f) (c := g) ok.f0 h0 g0 ok.f1 h1 g1
    unfold ar
    by_cases q : a.he ≠ -1 ∧ a.fl = g
    · rw [if_pos q]
      split
      · omega
      · rcases ok.hh with k | ⟨k1, k2⟩
        · exact absurd k q.1
        · omega
    · rw [if_neg q]
      split
      · rename_i q2
        rcases ok.hh with k | ⟨k1, k2⟩
        · exact absurd k q2.1
        · rw [q2.2]; omega
      · omega
end

/-- behind some stops -/
def go (s : St) : Sp → List Int → Sp
  | a, [] => a
  | a, f :: l => go s (nx s a f) l
/-- when the stops are -/
def tm (s : St) : Sp → List Int → List Int
  | _, [] => []
  | a, f :: l => ar s a f :: tm s (nx s a f) l
/-- floors of a site -/
def In (s : St) (l : List Int) : Prop := ∀ f ∈ l, 0 ≤ f ∧ f < s.fl
section
variable {s : St} {a b : Sp} {l m : List Int}
theorem In.cons {f : Int} (h : In s (f :: l)) : (0 ≤ f ∧ f < s.fl) ∧ In s l := ⟨h f (by simp), fun g hg => h g (by simp [hg])⟩
theorem In.append : In s (l ++ m) ↔ In s l ∧ In s m := ⟨fun h => ⟨fun f hf => h f (by simp [hf]), fun f hf => h f (by simp [hf])⟩, fun h f hf => (List.mem_append.1 hf).elim (h.1 f) (h.2 f)⟩
theorem go_append : ∀ (l m : List Int) (a : Sp), go s a (l ++ m) = go s (go s a l) m
  | [], _, _ => rfl
  | f :: l, m, a => go_append l m (nx s a f)
theorem tm_append : ∀ (l m : List Int) (a : Sp), tm s a (l ++ m) = tm s a l ++ tm s (go s a l) m
  | [], _, _ => rfl
  | f :: l, m, a => by
    show ar s a f :: tm s (nx s a f) (l ++ m) = _
    rw [tm_append l m]; rfl
theorem tm_length : ∀ (l : List Int) (a : Sp), (tm s a l).length = l.length
  | [], _ => rfl
  | f :: l, a => by
    show (tm s (nx s a f) l).length + 1 = _
    rw [tm_length l]; rfl
theorem go_snoc (f : Int) : go s a (l ++ [f]) = nx s (go s a l) f := by rw [go_append]; rfl
theorem tm_snoc (f : Int) : tm s a (l ++ [f]) = tm s a l ++ [ar s (go s a l) f] := by rw [tm_append]; rfl
theorem tm_get {f : Int} : ∀ {l : List Int} {a : Sp} {i : Nat}, l[i]? = some f → (tm s a l)[i]? = some (ar s (go s a (l.take i)) f)
  | [], _, _, h => by simp at h
  | g :: l, a, 0, h => by simp at h; subst h; rfl
  | g :: l, a, i + 1, h => tm_get (l := l) (a := nx s a g) (i := i) (by simpa using h)
theorem go_ok (r : Rt s) : ∀ {l : List Int} {a : Sp}, Ok s a → In s l → Ok s (go s a l)
  | [], _, ok, _ => ok
  | f :: l, a, ok, h => go_ok (l := l) (a := nx s a f) r (nx_ok r ok h.cons.1.1 h.cons.1.2) h.cons.2
/-- stops on the way make no other one earlier -/
theorem le_go (r : Rt s) : ∀ {l : List Int} {a : Sp}, Ok s a → In s l → Le s a (go s a l)
  | [], _, _, _ => Le.refl _ _
  | f :: l, a, ok, h => (le_nx r ok h.cons.1.1 h.cons.1.2).trans (le_go (l := l) (a := nx s a f) r (nx_ok r ok h.cons.1.1 h.cons.1.2) h.cons.2)
theorem Le.go (r : Rt s) : ∀ {l : List Int} {a b : Sp}, Ok s a → Ok s b → In s l → Le s a b → Le s (go s a l) (go s b l)
  | [], _, _, _, _, _, h => h
  | f :: l, a, b, oa, ob, hl, h => Le.go (l := l) (a := RM.nx s a f) (b := RM.nx s b f) r (nx_ok r oa hl.cons.1.1 hl.cons.1.2) (nx_ok r ob hl.cons.1.1 hl.cons.1.2) hl.cons.2 (h.nx r oa ob hl.cons.1.1 hl.cons.1.2)
theorem tm_le (r : Rt s) (oa : Ok s a) (ob : Ok s b) (hl : In s l) (h : Le s a b) {i : Nat} {t u : Int} (ht : (tm s a l)[i]? = some t) (hu : (tm s b l)[i]? = some u) : t ≤ u := by
  have hi : i < l.length := by have := (List.getElem?_eq_some_iff.1 ht).1; rwa [tm_length] at this
  have hf : l[i]? = some l[i] := List.getElem?_eq_getElem hi
  have hin := hl l[i] (List.getElem_mem hi)
  rw [tm_get (i := i) hf] at ht hu
  cases ht
  cases hu
  exact (Le.go r oa ob (fun f hf => hl f (List.mem_of_mem_take hf)) h) _ hin.1 hin.2
theorem tm_sum_le (r : Rt s) : ∀ {l : List Int} {a b : Sp}, Ok s a → Ok s b → In s l → Le s a b → (tm s a l).sum ≤ (tm s b l).sum
  | [], _, _, _, _, _, _ => Int.le_refl _
  | f :: l, a, b, oa, ob, hl, h => by
    have h1 := h f hl.cons.1.1 hl.cons.1.2
    have h2 := tm_sum_le r (nx_ok r oa hl.cons.1.1 hl.cons.1.2) (nx_ok r ob hl.cons.1.1 hl.cons.1.2) hl.cons.2 (h.nx r oa ob hl.cons.1.1 hl.cons.1.2)
    show (ar s a f :: tm s (nx s a f) l).sum ≤ (ar s b f :: tm s (nx s b f) l).sum
    rw [List.sum_cons, List.sum_cons]
    omega
theorem tm_nn (r : Rt s) : ∀ {l : List Int} {a : Sp}, Ok s a → In s l → ∀ t ∈ tm s a l, 0 ≤ t
  | [], _, _, _, t, h => by simp [tm] at h
  | f :: l, a, ok, hl, t, h => by
    rcases List.mem_cons.1 h with h | h
    · rw [h]; exact ar_nn r ok f
    · exact tm_nn r (nx_ok r ok hl.cons.1.1 hl.cons.1.2) hl.cons.2 t h
/-- how late a car may be -/
theorem go_le (r : Rt s) : ∀ {l : List Int} {a : Sp}, Ok s a → In s l → (go s a l).le ≤ a.le + 68002 * (l.length : Int)
  | [], _, _, _ => by simp [go]
  | f :: l, a, ok, hl => by
    have h1 := go_le r (nx_ok r ok hl.cons.1.1 hl.cons.1.2) hl.cons.2
    have h2 := ar_le r ok f
    have h3 := dw_bd r
    show (go s (nx s a f) l).le ≤ _
    rw [nx_eq ok] at h1 ⊢
    simp only at h1
    rw [List.length_cons]
    omega
theorem tm_bd (r : Rt s) (ok : Ok s a) (hl : In s l) : ∀ t ∈ tm s a l, t ≤ a.le + 68002 * (l.length : Int) := fun t ht => by
  obtain ⟨i, hi⟩ := List.getElem?_of_mem ht
  have hlt : i < l.length := by have := (List.getElem?_eq_some_iff.1 hi).1; rwa [tm_length] at this
  rw [tm_get (i := i) (List.getElem?_eq_getElem hlt)] at hi
  cases hi
  have hin : In s (l.take i) := fun f hf => hl f (List.mem_of_mem_take hf)
  have h1 := ar_le r (go_ok r ok hin) l[i]
  have h2 := go_le r ok hin
  rw [List.length_take] at h2
  omega
end

/- a car that goes on later -/
def sh (n : Int) (a : Sp) : Sp := ⟨a.fl, if a.he = -1 then -1 else a.he + n, a.le + n⟩
section
variable {s : St} {a : Sp} {n : Int}
theorem sh_bg (r : Int × Int) : bg (r.1, r.2 + n) = sh n (bg r) := rfl
theorem ar_sh (hn : 0 ≤ n) (ok : Ok s a) (f : Int) : ar s (sh n a) f = ar s a f + n := by
  unfold ar sh
  simp only
  by_cases h : a.he = -1
  · rw [if_pos h, if_neg (fun q => q.1 rfl), if_neg (fun q => q.1 h)]; omega
  · rw [if_neg h]
    have h1 : a.he + n ≠ -1 := by rcases ok.hh with k | k <;> omega
    by_cases e : a.fl = f
    · rw [if_pos ⟨h1, e⟩, if_pos ⟨h, e⟩]
    · rw [if_neg (fun q => e q.2), if_neg (fun q => e q.2)]; omega
theorem nx_sh (hn : 0 ≤ n) (r : Rt s) (ok : Ok s a) (f : Int) : nx s (sh n a) f = sh n (nx s a f) := by
  have h1 := ar_sh hn ok f
  have h2 := ar_nn r ok f
  have h3 : nx s (sh n a) f = ⟨f, ar s (sh n a) f, ar s (sh n a) f + dw s⟩ := by
    unfold nx ar
    by_cases h : (sh n a).he ≠ -1 ∧ (sh n a).fl = f
    · simp only [if_pos h]
      have hne : a.he ≠ -1 := fun e => h.1 (by unfold sh; simp only; rw [if_pos e])
      rcases ok.hh with k | ⟨_, k⟩
      · exact absurd k hne
      · unfold sh at h ⊢
        simp only at h ⊢
        rw [if_neg hne, k, h.2]
        congr 1
        omega
    · simp only [if_neg h]
  rw [h3, h1, nx_eq ok]
  unfold sh
  simp only
  rw [if_neg (by omega)]
  congr 1
  omega
theorem tm_sh (hn : 0 ≤ n) (r : Rt s) : ∀ {l : List Int} {a : Sp}, Ok s a → In s l → tm s (sh n a) l = (tm s a l).map (· + n)
  | [], _, _, _ => rfl
  | f :: l, a, ok, hl => by
    show ar s (sh n a) f :: tm s (nx s (sh n a) f) l = _
    rw [ar_sh hn ok, nx_sh hn r ok, tm_sh hn r (nx_ok r ok hl.cons.1.1 hl.cons.1.2) hl.cons.2]
    rfl
end

end RM
end Go.Proofs.Ytdfdkddjkhcgdah

/- When a plan's wants are served, and what it costs. No program is named here. -/
namespace Go.Proofs.Ytdfdkddjkhcgdah
namespace RM
open SM

/-- a want's floor -/
def wf (ws : List (Int × Int)) (w : Int) : Int := (ws[w.toNat]?.map (·.1)).getD 0
theorem wf_get {ws : List (Int × Int)} {i : Nat} {y : Int × Int} (h : ws[i]? = some y) : wf ws (i : Int) = y.1 := by unfold wf; rw [Int.toNat_natCast, h]; rfl
theorem wf_more {ws : List (Int × Int)} {w : Int} (y : Int × Int) (h0 : 0 ≤ w) (h : w < ws.length) : wf (ws ++ [y]) w = wf ws w := by
  unfold wf
  rw [List.getElem?_append_left (by omega)]
theorem wf_last (ws : List (Int × Int)) (y : Int × Int) : wf (ws ++ [y]) (ws.length : Int) = y.1 := by
  unfold wf
  rw [Int.toNat_natCast, List.getElem?_append_right (Nat.le_refl _)]
  simp
/-- the wants of a list, each with its time -/
def pr1 (s : St) (ws : List (Int × Int)) (r : Int × Int) (l : List Int) : List (Int × Int) := l.zip (tm s (bg r) (l.map (wf ws)))
/-- the wants of a plan, each with its time -/
def prs (s : St) (ws : List (Int × Int)) : List (Int × Int) → List (List Int) → List (Int × Int)
  | r :: cs, l :: p => pr1 s ws r l ++ prs s ws cs p
  | _, _ => []
/-- times are written where their wants are -/
def put : List Int → List (Int × Int) → List Int
  | o, [] => o
  | o, x :: q => put (o.set x.1.toNat x.2) q
/-- each want's time -/
def wts (s : St) (ws cs : List (Int × Int)) (p : List (List Int)) : List Int := put (List.replicate ws.length 0) (prs s ws cs p)
/-- what it costs -/
def cst (s : St) (ws cs : List (Int × Int)) (p : List (List Int)) : Int := ((prs s ws cs p).map (·.2)).sum

section
variable {s : St} {ws : List (Int × Int)}
theorem pr1_fst (r : Int × Int) (l : List Int) : (pr1 s ws r l).map (·.1) = l := by
  unfold pr1
  exact List.map_fst_zip (by rw [tm_length, List.length_map]; exact Nat.le_refl _)
theorem pr1_snd (r : Int × Int) (l : List Int) : (pr1 s ws r l).map (·.2) = tm s (bg r) (l.map (wf ws)) := by
  unfold pr1
  exact List.map_snd_zip (by rw [tm_length, List.length_map]; exact Nat.le_refl _)
theorem prs_fst : ∀ {cs : List (Int × Int)} {p : List (List Int)}, cs.length = p.length → (prs s ws cs p).map (·.1) = p.flatten
  | [], [], _ => rfl
  | [], _ :: _, h => by simp at h
  | _ :: _, [], h => by simp at h
  | r :: cs, l :: p, h => by
    show (pr1 s ws r l ++ prs s ws cs p).map (·.1) = _
    rw [List.map_append, pr1_fst, prs_fst (by simpa using h), List.flatten_cons]
theorem cst_cons (r : Int × Int) (l : List Int) (cs : List (Int × Int)) (p : List (List Int)) : cst s ws (r :: cs) (l :: p) = (tm s (bg r) (l.map (wf ws))).sum + cst s ws cs p := by
  show ((pr1 s ws r l ++ prs s ws cs p).map (·.2)).sum = _
  rw [List.map_append, List.sum_append, pr1_snd]; rfl
theorem cst_nil (cs : List (Int × Int)) : cst s ws cs [] = 0 := by cases cs <;> rfl
end

/- what is written -/
theorem put_length : ∀ (q : List (Int × Int)) (o : List Int), (put o q).length = o.length
  | [], _ => rfl
  | x :: q, o => by
    show (put (o.set x.1.toNat x.2) q).length = _
    rw [put_length q, List.length_set]
theorem put_append : ∀ (q r : List (Int × Int)) (o : List Int), put o (q ++ r) = put (put o q) r
  | [], _, _ => rfl
  | x :: q, r, o => put_append q r (o.set x.1.toNat x.2)
theorem put_far {w : Nat} : ∀ {q : List (Int × Int)} {o : List Int}, (∀ x ∈ q, x.1.toNat ≠ w) → (put o q)[w]? = o[w]?
  | [], _, _ => rfl
  | x :: q, o, h => by
    show (put (o.set x.1.toNat x.2) q)[w]? = _
    rw [put_far fun y hy => h y (by simp [hy]), List.getElem?_set_ne (h x (by simp))]
/-- each want once -/
def Once (q : List (Int × Int)) : Prop := q.Pairwise fun a b => a.1.toNat ≠ b.1.toNat
theorem put_get {w t : Int} : ∀ {q : List (Int × Int)} {o : List Int}, Once q → (w, t) ∈ q → w.toNat < o.length → (put o q)[w.toNat]? = some t
  | [], _, _, h, _ => by simp at h
  | x :: q, o, ho, h, hw => by
    obtain ⟨h1, h2⟩ := List.pairwise_cons.1 ho
    show (put (o.set x.1.toNat x.2) q)[w.toNat]? = _
    rcases List.mem_cons.1 h with h | h
    · subst h
      rw [put_far (fun y hy => Ne.symm (h1 y hy)), List.getElem?_set_self hw]
    · exact put_get h2 h (by rw [List.length_set]; exact hw)
theorem sum_set {t : Int} : ∀ {o : List Int} {i : Nat}, o[i]? = some 0 → (o.set i t).sum = o.sum + t
  | [], _, h => by simp at h
  | a :: o, 0, h => by
    simp at h
    subst h
    rw [List.set_cons_zero, List.sum_cons, List.sum_cons]; omega
  | a :: o, i + 1, h => by
    rw [List.set_cons_succ, List.sum_cons, List.sum_cons, sum_set (by simpa using h)]; omega
theorem put_sum : ∀ {q : List (Int × Int)} {o : List Int}, Once q → (∀ x ∈ q, o[x.1.toNat]? = some 0) → (put o q).sum = o.sum + (q.map (·.2)).sum
  | [], _, _, _ => by simp [put]
  | x :: q, o, ho, h => by
    obtain ⟨h1, h2⟩ := List.pairwise_cons.1 ho
    show (put (o.set x.1.toNat x.2) q).sum = _
    rw [put_sum h2 (fun y hy => by rw [List.getElem?_set_ne (h1 y hy)]; exact h y (by simp [hy])), sum_set (h x (by simp)), List.map_cons, List.sum_cons]
    omega
theorem sum_rep (n : Nat) : (List.replicate n (0 : Int)).sum = 0 := by
  induction n with
  | zero => rfl
  | succ n ih => rw [List.replicate_succ, List.sum_cons, ih]; rfl

/- of plans that may be -/
theorem fz_range {ms : List Nat} {p : List (List Int)} (h : PM.Fz ms p) : ∀ x ∈ p.flatten, 0 ≤ x ∧ x < ms.length := fun x hx => by
  obtain ⟨l, hl, hxl⟩ := List.mem_flatten.1 hx
  obtain ⟨c, hc⟩ := List.getElem?_of_mem hl
  have := PM.okx_iff.1 (h.ok c l hc x hxl)
  exact ⟨this.1, this.2.1⟩
theorem fz_nodup {ms : List Nat} {p : List (List Int)} (h : PM.Fz ms p) : p.flatten.Nodup := by
  rw [List.nodup_iff_count]
  intro x
  by_cases hx : x ∈ p.flatten
  · have hr := fz_range h x hx
    obtain ⟨w, rfl⟩ : ∃ w : Nat, x = (w : Int) := ⟨x.toNat, by omega⟩
    rw [h.once w (by omega)]; exact Nat.le_refl _
  · rw [List.count_eq_zero.2 hx]; omega
theorem once_of {q : List (Int × Int)} (h : (q.map (·.1)).Nodup) (h0 : ∀ x ∈ q, 0 ≤ x.1) : Once q := by
  unfold Once
  have h1 : q.Pairwise fun a b => a.1 ≠ b.1 := by
    have := h
    unfold List.Nodup at this
    rwa [List.pairwise_map] at this
  refine h1.imp_of_mem fun ha hb hne => ?_
  have := h0 _ ha
  have := h0 _ hb
  omega
section
variable {s : St} {ws cs : List (Int × Int)} {ms : List Nat} {p : List (List Int)}
theorem prs_mem (hl : cs.length = p.length) {x : Int × Int} (hx : x ∈ prs s ws cs p) : x.1 ∈ p.flatten := by
  rw [← prs_fst (s := s) (ws := ws) hl]
  exact List.mem_map.2 ⟨x, hx, rfl⟩
theorem prs_once (hf : PM.Fz ms p) (hl : cs.length = p.length) : Once (prs s ws cs p) :=
  once_of (by rw [prs_fst hl]; exact fz_nodup hf) fun x hx => (fz_range hf _ (prs_mem hl hx)).1
theorem wts_length : (wts s ws cs p).length = ws.length := by unfold wts; rw [put_length, List.length_replicate]
theorem wts_get (hf : PM.Fz ms p) (hm : ms.length = ws.length) (hl : cs.length = p.length) {w t : Int} (h : (w, t) ∈ prs s ws cs p) : (wts s ws cs p)[w.toNat]? = some t := by
  have := fz_range hf _ (prs_mem hl h)
  refine put_get (prs_once hf hl) h ?_
  rw [List.length_replicate]
  omega
/-- the cost is all times together -/
theorem wts_sum (hf : PM.Fz ms p) (hm : ms.length = ws.length) (hl : cs.length = p.length) : (wts s ws cs p).sum = cst s ws cs p := by
  unfold wts cst
  rw [put_sum (prs_once hf hl) (fun x hx => ?_), sum_rep, Int.zero_add]
  have := fz_range hf _ (prs_mem hl hx)
  rw [List.getElem?_replicate, if_pos (by omega)]
/-- each want stands somewhere -/
theorem prs_all (hf : PM.Fz ms p) (hl : cs.length = p.length) {w : Nat} (hw : w < ms.length) : ∃ t, ((w : Int), t) ∈ prs s ws cs p := by
  have h1 : (w : Int) ∈ p.flatten := List.count_pos_iff.1 (by rw [hf.once w hw]; omega)
  rw [← prs_fst (s := s) (ws := ws) hl] at h1
  obtain ⟨x, hx, e⟩ := List.mem_map.1 h1
  exact ⟨x.2, by rw [← e]; exact hx⟩
/-- the place of a want in a list -/
theorem prs_at : ∀ {cs : List (Int × Int)} {p : List (List Int)} {c i : Nat} {r : Int × Int} {l : List Int} {w : Int}, cs[c]? = some r → p[c]? = some l → l[i]? = some w → (w, ar s (go s (bg r) ((l.take i).map (wf ws))) (wf ws w)) ∈ prs s ws cs p
  | [], _, _, _, _, _, _, h, _, _ => by simp at h
  | _ :: _, [], _, _, _, _, _, _, h, _ => by simp at h
  | r0 :: cs, l0 :: p, 0, i, r, l, w, h1, h2, h3 => by
    simp at h1 h2
    subst h1 h2
    show _ ∈ pr1 s ws r0 l0 ++ prs s ws cs p
    refine List.mem_append_left _ ?_
    have hi := (List.getElem?_eq_some_iff.1 h3).1
    have h4 : (l0.map (wf ws))[i]? = some (wf ws w) := by rw [List.getElem?_map, h3]; rfl
    have h5 := tm_get (s := s) (a := bg r0) h4
    rw [← List.map_take] at h5
    refine List.mem_of_getElem? (i := i) ?_
    unfold pr1
    rw [List.getElem?_zip_eq_some]
    exact ⟨h3, h5⟩
  | r0 :: cs, l0 :: p, c + 1, i, r, l, w, h1, h2, h3 => List.mem_append_right _ (prs_at (cs := cs) (p := p) (by simpa using h1) (by simpa using h2) h3)
/-- where a want that has a time stands -/
theorem prs_where : ∀ {cs : List (Int × Int)} {p : List (List Int)} {w t : Int}, (w, t) ∈ prs s ws cs p → ∃ (c i : Nat) (r : Int × Int) (l : List Int), cs[c]? = some r ∧ p[c]? = some l ∧ l[i]? = some w ∧ t = ar s (go s (bg r) ((l.take i).map (wf ws))) (wf ws w)
  | [], _, _, _, h => by simp [prs] at h
  | _ :: _, [], _, _, h => by simp [prs] at h
  | r0 :: cs, l0 :: p, w, t, h => by
    rcases List.mem_append.1 (show _ ∈ pr1 s ws r0 l0 ++ prs s ws cs p from h) with h | h
    · obtain ⟨i, hi⟩ := List.getElem?_of_mem h
      unfold pr1 at hi
      rw [List.getElem?_zip_eq_some] at hi
      have h4 : (l0.map (wf ws))[i]? = some (wf ws w) := by rw [List.getElem?_map, hi.1]; rfl
      have h5 := tm_get (s := s) (a := bg r0) h4
      rw [← List.map_take, hi.2] at h5
      cases h5
      exact ⟨0, i, r0, l0, rfl, rfl, hi.1, rfl⟩
    · obtain ⟨c, i, r, l, h1, h2, h3, h4⟩ := prs_where h
      exact ⟨c + 1, i, r, l, by simpa using h1, by simpa using h2, h3, h4⟩
end

end RM
end Go.Proofs.Ytdfdkddjkhcgdah

/- A plan with one want more. No program is named here. -/
namespace Go.Proofs.Ytdfdkddjkhcgdah
namespace RM
open SM

section
variable {s : St} {ws : List (Int × Int)}
theorem map_more {l : List Int} (y : Int × Int) (h : ∀ x ∈ l, 0 ≤ x ∧ x < ws.length) : l.map (wf (ws ++ [y])) = l.map (wf ws) :=
  List.map_congr_left fun x hx => wf_more y (h x hx).1 (h x hx).2
theorem prs_more (y : Int × Int) : ∀ {cs : List (Int × Int)} {p : List (List Int)}, (∀ x ∈ p.flatten, 0 ≤ x ∧ x < ws.length) → prs s (ws ++ [y]) cs p = prs s ws cs p
  | [], _, _ => by simp [prs]
  | _ :: _, [], _ => by simp [prs]
  | r :: cs, l :: p, h => by
    show pr1 s (ws ++ [y]) r l ++ prs s (ws ++ [y]) cs p = pr1 s ws r l ++ prs s ws cs p
    rw [prs_more y fun x hx => h x (by rw [List.flatten_cons]; exact List.mem_append_right _ hx)]
    unfold pr1
    rw [map_more y fun x hx => h x (by rw [List.flatten_cons]; exact List.mem_append_left _ hx)]
/-- one list is another one -/
theorem cst_set : ∀ {cs : List (Int × Int)} {p : List (List Int)} {c : Nat} {r : Int × Int} {l : List Int} (l' : List Int), cs[c]? = some r → p[c]? = some l →
    cst s ws cs (p.set c l') + (tm s (bg r) (l.map (wf ws))).sum = cst s ws cs p + (tm s (bg r) (l'.map (wf ws))).sum
  | [], _, _, _, _, _, h, _ => by simp at h
  | _ :: _, [], _, _, _, _, _, h => by simp at h
  | r0 :: cs, l0 :: p, 0, r, l, l', h1, h2 => by
    simp at h1 h2
    subst h1 h2
    rw [List.set_cons_zero, cst_cons, cst_cons]
    omega
  | r0 :: cs, l0 :: p, c + 1, r, l, l', h1, h2 => by
    have := cst_set (cs := cs) (p := p) (c := c) (r := r) (l := l) l' (by simpa using h1) (by simpa using h2)
    rw [List.set_cons_succ, cst_cons, cst_cons]
    omega
end
/-- what is known of a snapshot's routes -/
structure Rz (s : St) (ws cs : List (Int × Int)) : Prop where
  rt : Rt s
  cr : ∀ r ∈ cs, Ok s (bg r)
  wr : ∀ y ∈ ws, 0 ≤ y.1 ∧ y.1 < s.fl
section
variable {s : St} {ws cs : List (Int × Int)} {p : List (List Int)}
theorem Rz.wf (h : Rz s ws cs) {x : Int} (h0 : 0 ≤ x) (h1 : x < ws.length) : 0 ≤ wf ws x ∧ wf ws x < s.fl := by
  obtain ⟨w, rfl⟩ : ∃ w : Nat, x = (w : Int) := ⟨x.toNat, by omega⟩
  have hw : ws[w]? = some (ws[w]'(by omega)) := List.getElem?_eq_getElem (by omega)
  rw [wf_get hw]
  exact h.wr _ (List.mem_of_getElem? hw)
theorem Rz.inn (h : Rz s ws cs) {l : List Int} (hl : ∀ x ∈ l, 0 ≤ x ∧ x < ws.length) : In s (l.map (RM.wf ws)) := fun f hf => by
  obtain ⟨x, hx, rfl⟩ := List.mem_map.1 hf
  exact h.wf (hl x hx).1 (hl x hx).2
theorem Rz.more (h : Rz s ws cs) {y : Int × Int} (h0 : 0 ≤ y.1) (h1 : y.1 < s.fl) : Rz s (ws ++ [y]) cs := ⟨h.rt, h.cr, fun z hz => by
  rcases List.mem_append.1 hz with hz | hz
  · exact h.wr z hz
  · simp at hz; subst hz; exact ⟨h0, h1⟩⟩
/-- what one want more costs -/
theorem more_cst (h : Rz s ws cs) {y : Int × Int} (h0 : 0 ≤ y.1) (h1 : y.1 < s.fl) (hp : ∀ x ∈ p.flatten, 0 ≤ x ∧ x < ws.length) {c : Nat} {r : Int × Int} {l1 l2 : List Int} (hc : cs[c]? = some r) (hl : p[c]? = some (l1 ++ l2)) :
    cst s ws cs p + ar s (go s (bg r) (l1.map (wf ws))) y.1 ≤ cst s (ws ++ [y]) cs (p.set c (l1 ++ (ws.length : Int) :: l2)) ∧
      (l2 = [] → cst s (ws ++ [y]) cs (p.set c (l1 ++ (ws.length : Int) :: l2)) = cst s ws cs p + ar s (go s (bg r) (l1.map (wf ws))) y.1) := by
  have hm : ∀ x ∈ l1 ++ l2, 0 ≤ x ∧ x < ws.length := fun x hx => hp x (List.mem_flatten.2 ⟨_, List.mem_of_getElem? hl, hx⟩)
  have hm1 : ∀ x ∈ l1, 0 ≤ x ∧ x < ws.length := fun x hx => hm x (by simp [hx])
  have hm2 : ∀ x ∈ l2, 0 ≤ x ∧ x < ws.length := fun x hx => hm x (by simp [hx])
  have e1 := cst_set (s := s) (ws := ws ++ [y]) (l1 ++ (ws.length : Int) :: l2) hc hl
  have e2 : cst s (ws ++ [y]) cs p = cst s ws cs p := by unfold cst; rw [prs_more y hp]
  have e3 : (l1 ++ (ws.length : Int) :: l2).map (wf (ws ++ [y])) = l1.map (wf ws) ++ (y.1 :: l2.map (wf ws)) := by
    rw [List.map_append, List.map_cons, map_more y hm1, map_more y hm2, wf_last]
  rw [e2, e3, map_more y hm, List.map_append, tm_append, tm_append, List.sum_append, List.sum_append] at e1
  have e4 : tm s (go s (bg r) (l1.map (wf ws))) (y.1 :: l2.map (wf ws)) = ar s (go s (bg r) (l1.map (wf ws))) y.1 :: tm s (nx s (go s (bg r) (l1.map (wf ws))) y.1) (l2.map (wf ws)) := rfl
  rw [e4, List.sum_cons] at e1
  have ok := go_ok h.rt (h.cr r (List.mem_of_getElem? hc)) (h.inn hm1)
  have hle := tm_sum_le h.rt ok (nx_ok h.rt ok h0 h1) (h.inn hm2) (le_nx h.rt ok h0 h1)
  refine ⟨by omega, fun e => ?_⟩
  subst e
  simp only [List.map_nil, tm, List.sum_nil] at e1
  omega
/-- the want itself -/
theorem more_own {y : Int × Int} (hp : ∀ x ∈ p.flatten, 0 ≤ x ∧ x < ws.length) {c : Nat} {r : Int × Int} {l1 l2 : List Int} (hc : cs[c]? = some r) (hl : p[c]? = some (l1 ++ l2)) :
    ((ws.length : Int), ar s (go s (bg r) (l1.map (wf ws))) y.1) ∈ prs s (ws ++ [y]) cs (p.set c (l1 ++ (ws.length : Int) :: l2)) := by
  have hm1 : ∀ x ∈ l1, 0 ≤ x ∧ x < ws.length := fun x hx => hp x (List.mem_flatten.2 ⟨_, List.mem_of_getElem? hl, by simp [hx]⟩)
  have := prs_at (s := s) (ws := ws ++ [y]) (cs := cs) (p := p.set c (l1 ++ (ws.length : Int) :: l2)) (c := c) (i := l1.length) (w := (ws.length : Int)) hc (List.getElem?_set_self (List.getElem?_eq_some_iff.1 hl).1) (by simp)
  rwa [List.take_left' rfl, map_more y hm1, wf_last] at this
/-- none is earlier -/
theorem more_late (h : Rz s ws cs) {y : Int × Int} (h0 : 0 ≤ y.1) (h1 : y.1 < s.fl) (hp : ∀ x ∈ p.flatten, 0 ≤ x ∧ x < ws.length) {c : Nat} {r : Int × Int} {l1 l2 : List Int} (hc : cs[c]? = some r) (hl : p[c]? = some (l1 ++ l2)) {w t : Int} (hw : (w, t) ∈ prs s ws cs p) :
    ∃ u, (w, u) ∈ prs s (ws ++ [y]) cs (p.set c (l1 ++ (ws.length : Int) :: l2)) ∧ t ≤ u := by
  obtain ⟨d, i, r', l, g1, g2, g3, g4⟩ := prs_where hw
  have hml : ∀ x ∈ l, 0 ≤ x ∧ x < ws.length := fun x hx => hp x (List.mem_flatten.2 ⟨_, List.mem_of_getElem? g2, hx⟩)
  have hmt : ∀ x ∈ l.take i, 0 ≤ x ∧ x < ws.length := fun x hx => hml x (List.mem_of_mem_take hx)
  have hww := hml w (List.mem_of_getElem? g3)
  have hwf := wf_more (ws := ws) y hww.1 hww.2
  by_cases e : c = d
  · subst e
    rw [hc] at g1
    rw [hl] at g2
    cases g1
    cases g2
    have hset : (p.set c (l1 ++ (ws.length : Int) :: l2))[c]? = some (l1 ++ (ws.length : Int) :: l2) := List.getElem?_set_self (List.getElem?_eq_some_iff.1 hl).1
    by_cases hi : i < l1.length
    · have := prs_at (s := s) (ws := ws ++ [y]) (i := i) (w := w) hc hset (by rw [List.getElem?_append_left hi] at g3 ⊢; exact g3)
      rw [List.take_append_of_le_length (by omega)] at this g4 hmt
      rw [map_more y hmt, hwf, ← g4] at this
      exact ⟨t, this, Int.le_refl _⟩
    · have g3' : l2[i - l1.length]? = some w := by rwa [List.getElem?_append_right (by omega)] at g3
      have := prs_at (s := s) (ws := ws ++ [y]) (i := i + 1) (w := w) hc hset (by rw [List.getElem?_append_right (by omega), show i + 1 - l1.length = (i - l1.length) + 1 by omega, List.getElem?_cons_succ]; exact g3')
      have e1 : (l1 ++ (ws.length : Int) :: l2).take (i + 1) = l1 ++ (ws.length : Int) :: l2.take (i - l1.length) := by
        rw [List.take_append, List.take_of_length_le (by omega), show i + 1 - l1.length = (i - l1.length) + 1 by omega, List.take_succ_cons]
      have e2 : (l1 ++ l2).take i = l1 ++ l2.take (i - l1.length) := by rw [List.take_append, List.take_of_length_le (by omega)]
      have hm1 : ∀ x ∈ l1, 0 ≤ x ∧ x < ws.length := fun x hx => hml x (by simp [hx])
      have hm2 : ∀ x ∈ l2.take (i - l1.length), 0 ≤ x ∧ x < ws.length := fun x hx => hml x (List.mem_append_right _ (List.mem_of_mem_take hx))
      rw [e1, List.map_append, List.map_cons, map_more y hm1, map_more y hm2, wf_last, hwf] at this
      rw [e2, List.map_append, go_append] at g4
      refine ⟨_, this, ?_⟩
      rw [g4, go_append]
      have ok := go_ok h.rt (h.cr r (List.mem_of_getElem? hc)) (h.inn hm1)
      have hin := h.wf hww.1 hww.2
      exact (Le.go h.rt ok (nx_ok h.rt ok h0 h1) (h.inn hm2) (le_nx h.rt ok h0 h1)) _ hin.1 hin.2
  · have := prs_at (s := s) (ws := ws ++ [y]) (i := i) (w := w) g1 (show (p.set c (l1 ++ (ws.length : Int) :: l2))[d]? = some l by rw [List.getElem?_set_ne e]; exact g2) g3
    rw [map_more y hmt, hwf, ← g4] at this
    exact ⟨t, this, Int.le_refl _⟩
end

end RM
end Go.Proofs.Ytdfdkddjkhcgdah
