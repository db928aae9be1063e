/- The walks of package floors: what needs no sequence. -/
import Derived.Test.YtiihnjfknohhbadSiteB
import Derived.Test.YtiihnjfknohhbadFloorM
import Derived.WalkKit
import Derived.WalkSpells
import Derived.WalkLawsBesides
import Derived.Laws.Bits64b
namespace Go.Proofs.Ytiihnjfknohhbad
open Go.RowKit

theorem ret_int' {k : IntKind} {a b : Int} (h : a = b) : Ending.returned (.int k a) = .returned (.int k b) := by rw [h]
theorem ret_boo {a b : Bool} (h : a = b) : Ending.returned (.bool a) = .returned (.bool b) := by rw [h]
theorem wrap_pow (k : Nat) (h : k < 64) : IntKind.u64.wrap (2 ^ k) = ((2 ^ k : Nat) : Int) := by
  have h1 : (2 : Nat) ^ k < 2 ^ 64 := Nat.pow_lt_pow_right (by omega) h
  have h2 : ((2 : Int) ^ k) = ((2 ^ k : Nat) : Int) := by simp
  rw [h2, IntKind.wrap_u64]
  generalize (2 : Nat) ^ k = m at h1 ⊢
  omega
theorem bits_andNot_u64_nat (a b : Nat) (ha : a < 18446744073709551616) (hb : b < 18446744073709551616) :
    bits .andNot .u64 (a : Int) (b : Int) = ((a &&& (18446744073709551615 - b) : Nat) : Int) := by
  have hx : a &&& (18446744073709551615 - b) < 2 ^ 64 := Nat.and_lt_two_pow _ (by omega)
  have h1 : (BitVec.ofInt 64 (a : Int)).toNat = a := by
    rw [BitVec.ofInt_natCast, BitVec.toNat_ofNat]; exact Nat.mod_eq_of_lt (by omega)
  have h2 : (BitVec.ofInt 64 (b : Int)).toNat = b := by
    rw [BitVec.ofInt_natCast, BitVec.toNat_ofNat]; exact Nat.mod_eq_of_lt (by omega)
  show IntKind.u64.wrap ((BitVec.ofInt 64 (a : Int) &&& ~~~BitVec.ofInt 64 (b : Int)).toNat : Int) = _
  rw [BitVec.toNat_and, BitVec.toNat_not, h1, h2, IntKind.wrap_u64]
  have e : 2 ^ 64 - 1 - b = 18446744073709551615 - b := by omega
  rw [e]
  omega

set_option maxHeartbeats 400000 in
theorem only_any (f : Int) (w : World) :
    Calls Try.prog 33 #[.int .i64 f] w fun e w' => e = .returned (.int .u64 (FM.onlyN f : Nat)) ∧ w' = w := by
  by_cases h0 : 0 ≤ f
  · by_cases h1 : f < 64
    · obtain ⟨k, rfl⟩ := Int.eq_ofNat_of_zero_le h0
      have e : FM.onlyN (k : Int) = 2 ^ k := by unfold FM.onlyN; rw [if_pos ⟨h0, h1⟩]; simp
      rw [e]
      clear e
      go_enter Try.func33, Try.ntmps33
      go_wp2
      go_ret
      exact ⟨ret_int' (wrap_pow k (by omega)), rfl⟩
    · have e : FM.onlyN f = 0 := by unfold FM.onlyN; rw [if_neg (by omega)]
      rw [e]
      clear e
      go_enter Try.func33, Try.ntmps33
      go_wp2
      go_ret
      exact ⟨rfl, rfl⟩
  · have e : FM.onlyN f = 0 := by unfold FM.onlyN; rw [if_neg (by omega)]
    rw [e]
    clear e
    have hd : decide (f < 0) = true := by simp; omega
    go_enter Try.func33, Try.ntmps33
    go_wp2
    go_ret
    exact ⟨rfl, rfl⟩

theorem has_fact (s : Nat) (f : Int) (hs : s < 18446744073709551616) : (bits BinOp.and IntKind.u64 (s : Int) ((FM.onlyN f : Nat) : Int) != 0) = FM.hasN s f := by
  rw [bits_and_u64_nat s _ hs (FM.onlyN_lt f), ← FM.has_only]
  rw [Bool.eq_iff_iff]; simp

set_option maxHeartbeats 400000 in
theorem has_any (s : Nat) (f : Int) (w : World) (hs : s < 18446744073709551616) :
    Calls Try.prog 20 #[.int .u64 s, .int .i64 f] w fun e w' => e = .returned (.bool (FM.hasN s f)) ∧ w' = w := by
  go_enter Try.func20, Try.ntmps20
  go_wp2_with (go_at_call 33; refine (only_any _ _).mono ?_; rintro e w' ⟨rfl, rfl⟩)
  go_ret
  exact ⟨ret_boo (has_fact s f hs), rfl⟩
set_option maxHeartbeats 400000 in
theorem with_any (s : Nat) (f : Int) (w : World) (hs : s < 18446744073709551616) :
    Calls Try.prog 26 #[.int .u64 s, .int .i64 f] w fun e w' => e = .returned (.int .u64 (FM.withN s f : Nat)) ∧ w' = w := by
  go_enter Try.func26, Try.ntmps26
  go_wp2_with (go_at_call 33; refine (only_any _ _).mono ?_; rintro e w' ⟨rfl, rfl⟩)
  go_ret
  exact ⟨ret_int' (bits_or_u64_nat s _ hs (FM.onlyN_lt f)), rfl⟩
set_option maxHeartbeats 400000 in
theorem less_any (s : Nat) (f : Int) (w : World) (hs : s < 18446744073709551616) :
    Calls Try.prog 27 #[.int .u64 s, .int .i64 f] w fun e w' => e = .returned (.int .u64 (FM.lessN s f : Nat)) ∧ w' = w := by
  go_enter Try.func27, Try.ntmps27
  go_wp2_with (go_at_call 33; refine (only_any _ _).mono ?_; rintro e w' ⟨rfl, rfl⟩)
  go_ret
  exact ⟨ret_int' (bits_andNot_u64_nat s _ hs (FM.onlyN_lt f)), rfl⟩

end Go.Proofs.Ytiihnjfknohhbad
