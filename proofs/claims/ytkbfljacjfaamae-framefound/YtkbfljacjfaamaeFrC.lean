/- The small functions of frames, and check sums of bytes in memory. -/
import Derived.Test.YtkbfljacjfaamaeFrB
namespace Go.Proofs.Ytkbfljacjfaamae
open Go.RowKit

theorem i64_xor_nat (a b : Nat) (ha : a < 2147483648) (hb : b < 2147483648) : bits .xor .i64 (a : Int) (b : Int) = ((a ^^^ b : Nat) : Int) := by
  have h := Nat.xor_lt_two_pow (n := 31) ha hb
  show IntKind.i64.wrap ((BitVec.ofInt 64 (a : Int) ^^^ BitVec.ofInt 64 (b : Int)).toNat : Nat) = _
  rw [BitVec.toNat_xor, ofInt_u64 a (by omega), ofInt_u64 b (by omega), IntKind.wrap_i64]
  omega
theorem i64_or_nat (a b : Nat) (ha : a < 2147483648) (hb : b < 2147483648) : bits .or .i64 (a : Int) (b : Int) = ((a ||| b : Nat) : Int) := by
  have h := Nat.or_lt_two_pow (n := 31) ha hb
  show IntKind.i64.wrap ((BitVec.ofInt 64 (a : Int) ||| BitVec.ofInt 64 (b : Int)).toNat : Nat) = _
  rw [BitVec.toNat_or, ofInt_u64 a (by omega), ofInt_u64 b (by omega), IntKind.wrap_i64]
  omega
theorem i64_and65535 (n : Int) : bits .and .i64 n 65535 = n % 65536 := by
  have h : (BitVec.ofInt 64 65535).toNat = 2 ^ 16 - 1 := by decide
  have key : (BitVec.ofInt 64 n &&& BitVec.ofInt 64 65535).toNat = (n % ((2 ^ 64 : Nat) : Int)).toNat % 2 ^ 16 := by
    rw [BitVec.toNat_and, BitVec.toNat_ofInt, h, Nat.and_two_pow_sub_one_eq_mod]
  show IntKind.i64.wrap ((BitVec.ofInt 64 n &&& BitVec.ofInt 64 65535).toNat : Nat) = n % 65536
  rw [key, IntKind.wrap_i64]
  omega
theorem i64_and15 (n : Int) : bits .and .i64 n 15 = n % 16 := by
  have h : (BitVec.ofInt 64 15).toNat = 2 ^ 4 - 1 := by decide
  have key : (BitVec.ofInt 64 n &&& BitVec.ofInt 64 15).toNat = (n % ((2 ^ 64 : Nat) : Int)).toNat % 2 ^ 4 := by
    rw [BitVec.toNat_and, BitVec.toNat_ofInt, h, Nat.and_two_pow_sub_one_eq_mod]
  show IntKind.i64.wrap ((BitVec.ofInt 64 n &&& BitVec.ofInt 64 15).toNat : Nat) = n % 16
  rw [key, IntKind.wrap_i64]
  omega

set_option maxHeartbeats 400000 in
theorem doubled_any (s : Nat) (hs : s < 65536) (w : World) :
    Calls Try.prog 18 #[.int .u16 (s : Int)] w fun e w' => e = .returned (.int .u16 (FC.dbl s : Nat)) ∧ w' = w := by
  by_cases h : 32768 ≤ s
  · have hz : (32768 : Int) ≤ (s : Int) := by omega
    go_enter Try.func18, Try.ntmps18
    go_wp2
    go_ret
    refine ⟨ret_int ?_, rfl⟩
    have e : IntKind.u16.wrap ((s : Int) * 2) = ((2 * s - 65536 : Nat) : Int) := by rw [IntKind.wrap_u16]; omega
    rw [e, show (4129 : Int) = ((4129 : Nat) : Int) from rfl, u16_xor_nat _ _ (by omega) (by omega)]
    unfold FC.dbl
    rw [if_pos h]
  · have hz : ¬ (32768 : Int) ≤ (s : Int) := by omega
    go_enter Try.func18, Try.ntmps18
    go_wp2
    go_ret
    refine ⟨ret_int ?_, rfl⟩
    unfold FC.dbl
    rw [if_neg h]
    omega
theorem upper_any (n : Nat) (hs : n < 65536) (w : World) :
    Calls Try.prog 13 #[.int .i64 (n : Int)] w fun e w' => e = .returned (.int .u8 (n / 256 : Nat)) ∧ w' = w := by
  go_enter Try.func13, Try.ntmps13
  go_wp2
  go_ret
  refine ⟨ret_int ?_, rfl⟩
  omega
theorem lower_any (n : Nat) (_hs : n < 65536) (w : World) :
    Calls Try.prog 14 #[.int .i64 (n : Int)] w fun e w' => e = .returned (.int .u8 (n % 256 : Nat)) ∧ w' = w := by
  go_enter Try.func14, Try.ntmps14
  go_wp2
  go_ret
  refine ⟨ret_int ?_, rfl⟩
  omega
theorem joined_any (x y : Nat) (hx : x < 256) (hy : y < 256) (w : World) :
    Calls Try.prog 20 #[.int .u8 (x : Int), .int .u8 (y : Int)] w fun e w' => e = .returned (.int .i64 (x * 256 + y : Nat)) ∧ w' = w := by
  go_enter Try.func20, Try.ntmps20
  go_wp2
  go_ret
  refine ⟨ret_int ?_, rfl⟩
  rw [show (x : Int) * 256 = ((x * 256 : Nat) : Int) by omega, i64_or_nat _ _ (by omega) (by omega), nat_join 8 (x * 256) y (by omega) hy]

theorem tk_step (s x k : Nat) : FC.dbl (FC.dbls k (s ^^^ (x * 256))) = FC.dbls (k + 1) (s ^^^ (x * 256)) := rfl

set_option maxHeartbeats 1000000 in
theorem sum_any (v : Value) (l : List Nat) (w : World) (h : RD w v l) :
    Calls Try.prog 10 #[v] w fun e w' => e = .returned (.int .i64 (FC.crc l : Nat)) ∧ w' = w := by
  have HR := Hid.intro' h
  obtain ⟨a, cap, rfl, hc, hm, ha⟩ := h.form
  have hB := Hid.intro' h.bs
  unfold maxLen at hm
  clear h
  go_enter Try.func10, Try.ntmps10
  go_wp2
  go_loop [3, 5, 8, 17] (fun s _ i _ => ∃ k : Nat, k ≤ l.length ∧ i = .int .i64 k ∧ s = .int .u16 (FC.crc (l.take k) : Nat)) (fun _ _ i _ => l.length - (intOf i).toNat)
  case atStart => exact ⟨0, Nat.zero_le _, rfl, rfl⟩
  case round =>
    obtain ⟨k, hk, rfl, rfl⟩ := hrel
    have hlt16 := FC.crc_lt (hB.out.take k)
    generalize hs : FC.crc (l.take k) = s at hlt16
    have HS := Hid.intro' hs
    clear hs
    by_cases hlt : k < l.length
    · have hkz : (k : Int) < (l.length : Int) := by omega
      obtain ⟨x, hx⟩ : ∃ x, l[k]? = some x := ⟨_, List.getElem?_eq_getElem hlt⟩
      have hx8 := hB.out.get hx
      rcases ha with ha | ⟨g, o, rfl, hg⟩
      · exfalso; rw [ha] at hx; simp at hx
      have hcell := HR.out.cell hx
      have HX := Hid.intro' hx
      clear hx
      go_wp2
      go_loop [3, 17] (fun t i => ∃ j : Nat, j ≤ 8 ∧ i = .int .i64 j ∧ t = .int .u16 (FC.dbls j (s ^^^ (x * 256)) : Nat)) (fun _ i => 8 - (intOf i).toNat)
      case atStart =>
        refine ⟨0, Nat.zero_le _, rfl, ?_⟩
        rw [show (x : Int) * 256 = ((x * 256 : Nat) : Int) by omega, u16_xor_nat _ _ hlt16 (by omega)]
        rfl
      case round =>
        obtain ⟨j, hj, rfl, rfl⟩ := hrel
        have hdl := FC.dbls_lt (a := s ^^^ (x * 256)) j (FC.xor_lt hlt16 (by omega))
        by_cases hlt8 : j < 8
        · have hjz : (j : Int) < 8 := by omega
          go_wp2_with (go_at_call 18; refine (doubled_any _ hdl _).mono ?_; rintro e w' ⟨rfl, rfl⟩)
          go_round
          case rel => exact ⟨j + 1, by omega, by go_num, rfl⟩
          case measure => simp [intOf]; omega
        · have hjz : ¬ (j : Int) < 8 := by omega
          obtain rfl : j = 8 := by omega
          have HT : Hid (FC.crc (l.take (k + 1)) = FC.dbls 8 (s ^^^ (x * 256))) := by
            have := FC.crc_take HX.out
            rw [HS.out] at this
            exact this
          go_wp2
          go_round
          case rel => exact ⟨k + 1, by omega, by go_num, by rw [HT.out]⟩
          case measure => simp [intOf]; omega
    · have hkz : ¬ (k : Int) < (l.length : Int) := by omega
      obtain rfl : k = l.length := by omega
      go_wp2
      go_ret
      refine ⟨ret_int ?_, rfl⟩
      rw [← HS.out, List.take_length]

end Go.Proofs.Ytkbfljacjfaamae
