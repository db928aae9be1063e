/- The walks of package num and of the document's answer for it: each function's contract. -/
import Derived.Test.YtkcppidmbojglafRows
import Derived.Test.YtkcppidmbojglafNum
import Derived.Test.YtkcppidmbojglafSiteA
import Derived.WalkKit
import Derived.WalkSpells
import Derived.WalkLawsBesides
namespace Go.Proofs.Ytkcppidmbojglaf
open Go.RowKit


set_option maxHeartbeats 400000 in
theorem within_any (a : Int) (w : World) :
    Calls Try.prog 57 #[.int .i64 a] w fun e w' => e = .returned (.int .i64 (NumM.cl a)) ∧ w' = w := by
  go_enter Try.func57, Try.ntmps57
  go_wp2
  all_goals
    go_ret
    exact ⟨ret_int (by unfold NumM.cl; repeat' split
                       all_goals omega), rfl⟩

set_option maxHeartbeats 400000 in
theorem size_any (a : Int) (w : World) (h1 : -1099511627776 ≤ a) (h2 : a ≤ 1099511627776) :
    Calls Try.prog 62 #[.int .i64 a] w fun e w' => e = .returned (.int .i64 (NumM.sz a)) ∧ w' = w := by
  go_enter Try.func62, Try.ntmps62
  go_wp2
  all_goals
    go_ret
    exact ⟨ret_int (by unfold NumM.sz; split <;> omega), rfl⟩

set_option maxHeartbeats 400000 in
theorem add_any (a b : Int) (w : World) :
    Calls Try.prog 44 #[.int .i64 a, .int .i64 b] w fun e w' => e = .returned (.int .i64 (NumM.cl (NumM.cl a + NumM.cl b))) ∧ w' = w := by
  obtain ⟨a1, a2⟩ := NumM.cl_bd a
  obtain ⟨b1, b2⟩ := NumM.cl_bd b
  go_enter Try.func44, Try.ntmps44
  go_wp2_with (go_at_call 57; refine (within_any _ _).mono ?_; rintro e w' ⟨rfl, rfl⟩)
  go_ret
  exact ⟨rfl, rfl⟩

set_option maxHeartbeats 1000000 in
theorem mul_any (a b : Int) (w : World) :
    Calls Try.prog 58 #[.int .i64 a, .int .i64 b] w fun e w' => e = .returned (.int .i64 (NumM.cl (NumM.cl a * NumM.cl b))) ∧ w' = w := by
  obtain ⟨a1, a2⟩ := NumM.cl_bd a
  obtain ⟨b1, b2⟩ := NumM.cl_bd b
  have s1 := NumM.sz_nonneg (NumM.cl a)
  have s2 := NumM.sz_nonneg (NumM.cl b)
  by_cases h0 : NumM.cl a = 0
  · have hb : (NumM.cl a != 0) = false := by simp [h0]
    have H0 : Hid (NumM.cl a = 0) := h0
    have hm := NumM.mul_small (b := NumM.cl b) (Or.inl h0)
    clear h0
    go_enter Try.func58, Try.ntmps58
    go_wp2_with (first | (go_at_call 57; refine (within_any _ _).mono ?_; rintro e w' ⟨rfl, rfl⟩) | (go_at_call 62; refine (size_any _ _ (by omega) (by omega)).mono ?_; rintro e w' ⟨rfl, rfl⟩))
    go_ret
    exact ⟨ret_int (by rw [NumM.cl_in hm.1 hm.2]), rfl⟩
  · have hb : (NumM.cl a != 0) = true := by simp [h0]
    have s3 := NumM.sz_pos h0
    by_cases hq : NumM.sz (NumM.cl b) ≤ 1099511627776 / NumM.sz (NumM.cl a)
    · have hm := NumM.mul_small (Or.inr hq)
      clear h0
      go_enter Try.func58, Try.ntmps58
      go_wp2_with (first | (go_at_call 57; refine (within_any _ _).mono ?_; rintro e w' ⟨rfl, rfl⟩) | (go_at_call 62; refine (size_any _ _ (by omega) (by omega)).mono ?_; rintro e w' ⟨rfl, rfl⟩))
      go_ret
      exact ⟨ret_int (by rw [NumM.cl_in hm.1 hm.2]), rfl⟩
    · have hq' : 1099511627776 / NumM.sz (NumM.cl a) < NumM.sz (NumM.cl b) := by omega
      have HM : Hid (NumM.cl (NumM.cl a * NumM.cl b) = if (NumM.cl a < 0) ≠ (NumM.cl b < 0) then -1099511627776 else 1099511627776) := NumM.cl_mul_pass h0 hq'
      clear h0 hq
      rcases Bool.eq_false_or_eq_true (decide (NumM.cl a < 0)) with xa | xa <;> rcases Bool.eq_false_or_eq_true (decide (NumM.cl b < 0)) with xb | xb
      all_goals
        go_enter Try.func58, Try.ntmps58
        go_wp2_with (first | (go_at_call 57; refine (within_any _ _).mono ?_; rintro e w' ⟨rfl, rfl⟩) | (go_at_call 62; refine (size_any _ _ (by omega) (by omega)).mono ?_; rintro e w' ⟨rfl, rfl⟩))
        go_ret
        exact ⟨ret_int (by rw [HM.out]; simp only [decide_eq_true_eq, decide_eq_false_iff_not] at xa xb; simp [xa, xb]), rfl⟩

theorem take_snoc_i (zs : List Int) (k : Nat) (h : k < zs.length) : zs.take (k + 1) = zs.take k ++ [zs[k]?.getD 0] := by
  rw [List.take_succ_eq_append_getElem h]; simp [h]
theorem sum_take (zs : List Int) (k : Nat) (h : k < zs.length) : NumM.cl (NumM.cl (NumM.sumL (zs.take k)) + NumM.cl (zs[k]?.getD 0)) = NumM.sumL (zs.take (k + 1)) := by
  rw [take_snoc_i zs k h, NumM.sumL_snoc]

set_option maxHeartbeats 400000 in
theorem sum_any (b off len cap : Nat) (zs : List Int) (w : World) (hl : len ≤ zs.length) (hm : len ≤ 1000000)
    (hc : ∀ i, i < len → w.cell? ⟨b, off + i, none⟩ = some (.int .i64 (zs[i]?.getD 0))) :
    Calls Try.prog 42 #[.slice (some ⟨b, off, none⟩) len cap] w fun e w' => e = .returned (.int .i64 (NumM.sumL (zs.take len))) ∧ w' = w := by
  go_enter Try.func42, Try.ntmps42
  go_wp2
  go_loop [3, 8] (fun t i => ∃ k : Nat, k ≤ len ∧ i = .int .i64 k ∧ t = .int .i64 (NumM.sumL (zs.take k))) (fun _ i => len - (intOf i).toNat)
  case atStart => exact ⟨0, Nat.zero_le _, rfl, rfl⟩
  case round =>
    obtain ⟨k, hk, rfl, rfl⟩ := hrel
    by_cases hlt : k < len
    · have hcell := hc k hlt
      have HS : Hid (NumM.cl (NumM.cl (NumM.sumL (zs.take k)) + NumM.cl (zs[k]?.getD 0)) = NumM.sumL (zs.take (k + 1))) := sum_take zs k (by omega)
      clear hc
      go_wp2_with (go_at_call 44; refine (add_any _ _ _).mono ?_; rintro e w' ⟨rfl, rfl⟩)
      go_round
      case rel => exact ⟨k + 1, by omega, by go_num, by rw [HS.out]⟩
      case measure => simp [intOf]; omega
    · obtain rfl : k = len := by omega
      clear hc
      go_wp2
      go_ret
      exact ⟨rfl, rfl⟩

end Go.Proofs.Ytkcppidmbojglaf
