/- The walks of package num and of the document's answer for it: each function's contract. -/
import Derived.Test.YtklekpkchpnmiaaRows
import Derived.Test.YtklekpkchpnmiaaNum
import Derived.WalkKit
import Derived.WalkSpells
import Derived.WalkLawsBesides
namespace Go.Proofs.Ytklekpkchpnmiaa
open Go.RowKit

theorem ret_int {k : IntKind} {a b : Int} (h : a = b) : Ending.returned (.int k a) = .returned (.int k b) := by rw [h]

set_option maxHeartbeats 400000 in
theorem within_any (a : Int) (w : World) :
    Calls Try.prog 34 #[.int .i64 a] w fun e w' => e = .returned (.int .i64 (NumM.cl a)) ∧ w' = w := by
  go_enter Try.func34, Try.ntmps34
  go_wp2
  all_goals
    go_ret
    exact ⟨ret_int (by unfold NumM.cl; repeat' split
                       all_goals omega), rfl⟩

set_option maxHeartbeats 400000 in
theorem size_any (a : Int) (w : World) (h1 : -1099511627776 ≤ a) (h2 : a ≤ 1099511627776) :
    Calls Try.prog 35 #[.int .i64 a] w fun e w' => e = .returned (.int .i64 (NumM.sz a)) ∧ w' = w := by
  go_enter Try.func35, Try.ntmps35
  go_wp2
  all_goals
    go_ret
    exact ⟨ret_int (by unfold NumM.sz; split <;> omega), rfl⟩

set_option maxHeartbeats 400000 in
theorem rwithin_any (a : Int) (w : World) :
    Calls Try.prog 10 #[.int .i64 a] w fun e w' => e = .returned (.int .i64 (NumM.cl a)) ∧ w' = w := by
  go_enter Try.func10, Try.ntmps10
  go_wp2
  all_goals
    go_ret
    exact ⟨ret_int (by unfold NumM.cl; repeat' split
                       all_goals omega), rfl⟩

set_option maxHeartbeats 400000 in
theorem add_any (a b : Int) (w : World) :
    Calls Try.prog 11 #[.int .i64 a, .int .i64 b] w fun e w' => e = .returned (.int .i64 (NumM.cl (NumM.cl a + NumM.cl b))) ∧ w' = w := by
  obtain ⟨a1, a2⟩ := NumM.cl_bd a
  obtain ⟨b1, b2⟩ := NumM.cl_bd b
  go_enter Try.func11, Try.ntmps11
  go_wp2_with (go_at_call 34; refine (within_any _ _).mono ?_; rintro e w' ⟨rfl, rfl⟩)
  go_ret
  exact ⟨rfl, rfl⟩

set_option maxHeartbeats 400000 in
theorem radd_any (a b : Int) (w : World) :
    Calls Try.prog 12 #[.int .i64 a, .int .i64 b] w fun e w' => e = .returned (.int .i64 (NumM.cl (NumM.cl a + NumM.cl b))) ∧ w' = w := by
  obtain ⟨a1, a2⟩ := NumM.cl_bd a
  obtain ⟨b1, b2⟩ := NumM.cl_bd b
  go_enter Try.func12, Try.ntmps12
  go_wp2_with (go_at_call 10; refine (rwithin_any _ _).mono ?_; rintro e w' ⟨rfl, rfl⟩)
  go_ret
  exact ⟨rfl, rfl⟩

set_option maxHeartbeats 400000 in
theorem sub_any (a b : Int) (w : World) :
    Calls Try.prog 13 #[.int .i64 a, .int .i64 b] w fun e w' => e = .returned (.int .i64 (NumM.cl (NumM.cl a - NumM.cl b))) ∧ w' = w := by
  obtain ⟨a1, a2⟩ := NumM.cl_bd a
  obtain ⟨b1, b2⟩ := NumM.cl_bd b
  go_enter Try.func13, Try.ntmps13
  go_wp2_with (go_at_call 34; refine (within_any _ _).mono ?_; rintro e w' ⟨rfl, rfl⟩)
  go_ret
  exact ⟨rfl, rfl⟩

set_option maxHeartbeats 400000 in
theorem full_any (a : Int) (w : World) :
    Calls Try.prog 18 #[.int .i64 a] w fun e w' => e = .returned (.bool (NumM.sz (NumM.cl a) == 1099511627776)) ∧ w' = w := by
  obtain ⟨a1, a2⟩ := NumM.cl_bd a
  go_enter Try.func18, Try.ntmps18
  go_wp2_with (first | (go_at_call 34; refine (within_any _ _).mono ?_; rintro e w' ⟨rfl, rfl⟩) | (go_at_call 35; refine (size_any _ _ (by omega) (by omega)).mono ?_; rintro e w' ⟨rfl, rfl⟩))
  go_ret
  exact ⟨rfl, rfl⟩

set_option maxHeartbeats 1000000 in
theorem mul_any (a b : Int) (w : World) :
    Calls Try.prog 14 #[.int .i64 a, .int .i64 b] w fun e w' => e = .returned (.int .i64 (NumM.cl (NumM.cl a * NumM.cl b))) ∧ w' = w := by
  obtain ⟨a1, a2⟩ := NumM.cl_bd a
  obtain ⟨b1, b2⟩ := NumM.cl_bd b
  have s1 := NumM.sz_nonneg (NumM.cl a)
  have s2 := NumM.sz_nonneg (NumM.cl b)
  by_cases h0 : NumM.cl a = 0
  · have hb : (NumM.cl a != 0) = false := by simp [h0]
    have H0 : Hid (NumM.cl a = 0) := h0
    have hm := NumM.mul_small (b := NumM.cl b) (Or.inl h0)
    clear h0
    go_enter Try.func14, Try.ntmps14
    go_wp2_with (first | (go_at_call 34; refine (within_any _ _).mono ?_; rintro e w' ⟨rfl, rfl⟩) | (go_at_call 35; refine (size_any _ _ (by omega) (by omega)).mono ?_; rintro e w' ⟨rfl, rfl⟩))
    go_ret
    exact ⟨ret_int (by rw [NumM.cl_in hm.1 hm.2]), rfl⟩
  · have hb : (NumM.cl a != 0) = true := by simp [h0]
    have s3 := NumM.sz_pos h0
    by_cases hq : NumM.sz (NumM.cl b) ≤ 1099511627776 / NumM.sz (NumM.cl a)
    · have hm := NumM.mul_small (Or.inr hq)
      clear h0
      go_enter Try.func14, Try.ntmps14
      go_wp2_with (first | (go_at_call 34; refine (within_any _ _).mono ?_; rintro e w' ⟨rfl, rfl⟩) | (go_at_call 35; refine (size_any _ _ (by omega) (by omega)).mono ?_; rintro e w' ⟨rfl, rfl⟩))
      go_ret
      exact ⟨ret_int (by rw [NumM.cl_in hm.1 hm.2]), rfl⟩
    · have hq' : 1099511627776 / NumM.sz (NumM.cl a) < NumM.sz (NumM.cl b) := by omega
      have HM : Hid (NumM.cl (NumM.cl a * NumM.cl b) = if (NumM.cl a < 0) ≠ (NumM.cl b < 0) then -1099511627776 else 1099511627776) := NumM.cl_mul_pass h0 hq'
      clear h0 hq
      rcases Bool.eq_false_or_eq_true (decide (NumM.cl a < 0)) with xa | xa <;> rcases Bool.eq_false_or_eq_true (decide (NumM.cl b < 0)) with xb | xb
      all_goals
        go_enter Try.func14, Try.ntmps14
        go_wp2_with (first | (go_at_call 34; refine (within_any _ _).mono ?_; rintro e w' ⟨rfl, rfl⟩) | (go_at_call 35; refine (size_any _ _ (by omega) (by omega)).mono ?_; rintro e w' ⟨rfl, rfl⟩))
        go_ret
        exact ⟨ret_int (by rw [HM.out]; simp only [decide_eq_true_eq, decide_eq_false_iff_not] at xa xb; simp [xa, xb]), rfl⟩

set_option maxHeartbeats 2000000 in
theorem rmul_any (a b : Int) (w : World) :
    Calls Try.prog 15 #[.int .i64 a, .int .i64 b] w fun e w' => e = .returned (.int .i64 (NumM.cl (NumM.cl a * NumM.cl b))) ∧ w' = w := by
  obtain ⟨a1, a2⟩ := NumM.cl_bd a
  obtain ⟨b1, b2⟩ := NumM.cl_bd b
  rcases Bool.eq_false_or_eq_true (decide (NumM.cl a < 0)) with xa | xa <;> rcases Bool.eq_false_or_eq_true (decide (NumM.cl b < 0)) with xb | xb
  all_goals
    have xa' := xa
    have xb' := xb
    simp only [decide_eq_true_eq, decide_eq_false_iff_not] at xa' xb'
    go_enter Try.func15, Try.ntmps15
    go_wp2_with (go_at_call 10; refine (rwithin_any _ _).mono ?_; rintro e w' ⟨rfl, rfl⟩)
    go_loop [0, 1, 6] (fun s t u => ∃ x y n : Int, 0 ≤ x ∧ x ≤ 1099511627776 ∧ 0 ≤ y ∧ y ≤ 1099511627776 ∧ 0 ≤ n ∧ n ≤ 1099511627776 ∧ s = .int .i64 x ∧ t = .int .i64 y ∧ u = .int .i64 n ∧ NumM.cl (n + x * y) = NumM.cl (NumM.sz (NumM.cl a) * NumM.sz (NumM.cl b)))
      (fun _ t _ => (intOf t).toNat)
    case atStart =>
      refine ⟨_, _, _, ?_, ?_, ?_, ?_, ?_, ?_, rfl, rfl, rfl, ?_⟩
      case refine_7 => first | rw [NumM.sz_neg xa', NumM.sz_neg xb', Int.zero_add] | rw [NumM.sz_neg xa', NumM.sz_nn (by omega), Int.zero_add] | rw [NumM.sz_nn (by omega), NumM.sz_neg xb', Int.zero_add] | rw [NumM.sz_nn (by omega), NumM.sz_nn (by omega), Int.zero_add]
      all_goals omega
    case round =>
      obtain ⟨x, y, n, hx1, hx2, hy1, hy2, hn1, hn2, rfl, rfl, rfl, hr⟩ := hrel
      have HR : Hid (NumM.cl (n + x * y) = NumM.cl (NumM.sz (NumM.cl a) * NumM.sz (NumM.cl b))) := hr
      clear hr
      by_cases hy : 0 < y
      · by_cases ho : y % 2 = 1
        · have hob : (y % 2 == 1) = true := by simp [ho]
          have HO : Hid (y % 2 = 1) := ho
          clear ho
          go_wp2_with (go_at_call 12; refine (radd_any _ _ _).mono ?_; rintro e w' ⟨rfl, rfl⟩)
          go_round
          case rel => exact ⟨_, _, _, NumM.dbl_nn hx1 hx1, (NumM.cl_bd _).2, by omega, by omega, NumM.dbl_nn hn1 hx1, (NumM.cl_bd _).2, rfl, rfl, rfl, (NumM.step_odd hn1 hn2 hx1 hx2 hy1 HO.out).trans HR.out⟩
          case measure => simp [intOf]; omega
        · have hob : (y % 2 == 1) = false := by simp [ho]
          have HO : Hid (¬ y % 2 = 1) := ho
          clear ho
          go_wp2_with (go_at_call 12; refine (radd_any _ _ _).mono ?_; rintro e w' ⟨rfl, rfl⟩)
          go_round
          case rel => exact ⟨_, _, _, NumM.dbl_nn hx1 hx1, (NumM.cl_bd _).2, by omega, by omega, hn1, hn2, rfl, rfl, rfl, (NumM.step_even hn1 hx1 hx2 hy1 HO.out).trans HR.out⟩
          case measure => simp [intOf]; omega
      · obtain rfl : y = 0 := by omega
        have HR2 : Hid (NumM.cl n = NumM.cl (NumM.sz (NumM.cl a) * NumM.sz (NumM.cl b))) := by
          have := HR.out
          rw [Int.mul_zero, Int.add_zero] at this
          exact this
        go_wp2
        go_ret
        first
          | exact ⟨ret_int (NumM.signs_pp xa xb HR2.out hn1 hn2), rfl⟩
          | exact ⟨ret_int (NumM.signs_nn xa xb HR2.out hn1 hn2), rfl⟩
          | exact ⟨ret_int (NumM.signs_np xa xb HR2.out hn1 hn2), rfl⟩
          | exact ⟨ret_int (NumM.signs_pn xa xb HR2.out hn1 hn2), rfl⟩

end Go.Proofs.Ytklekpkchpnmiaa
