/- The walks of package floors: what needs no sequence. -/
import Derived.Test.YtklekpkchpnmiaaRows
import Derived.Test.YtklekpkchpnmiaaFloorsP
import Derived.WalkKit
import Derived.WalkSpells
import Derived.WalkLawsBesides
import Derived.Laws.Bits64b
namespace Go.Proofs.Ytklekpkchpnmiaa
open Go.RowKit

theorem ret_int' {k : IntKind} {a b : Int} (h : a = b) : Ending.returned (.int k a) = .returned (.int k b) := by rw [h]
theorem Hid.intro' {p : Prop} (h : p) : Hid p := h
theorem ret_bool {a b : Bool} (h : a = b) : Ending.returned (.bool a) = .returned (.bool b) := by rw [h]
theorem wrap_pow (k : Nat) (h : k < 64) : IntKind.u64.wrap (2 ^ k) = ((2 ^ k : Nat) : Int) := by
  have h1 : (2 : Nat) ^ k < 2 ^ 64 := Nat.pow_lt_pow_right (by omega) h
  have h2 : ((2 : Int) ^ k) = ((2 ^ k : Nat) : Int) := by simp
  rw [h2, IntKind.wrap_u64]
  generalize (2 : Nat) ^ k = m at h1 ⊢
  omega
theorem bits_andNot_u64_nat (a b : Nat) (ha : a < 18446744073709551616) (hb : b < 18446744073709551616) :
    bits .andNot .u64 (a : Int) (b : Int) = ((a &&& (18446744073709551615 - b) : Nat) : Int) := by
  have hx : a &&& (18446744073709551615 - b) < 2 ^ 64 := Nat.and_lt_two_pow _ (by omega)
  have h1 : (BitVec.ofInt 64 (a : Int)).toNat = a := by
    rw [BitVec.ofInt_natCast, BitVec.toNat_ofNat]; exact Nat.mod_eq_of_lt (by omega)
  have h2 : (BitVec.ofInt 64 (b : Int)).toNat = b := by
    rw [BitVec.ofInt_natCast, BitVec.toNat_ofNat]; exact Nat.mod_eq_of_lt (by omega)
  show IntKind.u64.wrap ((BitVec.ofInt 64 (a : Int) &&& ~~~BitVec.ofInt 64 (b : Int)).toNat : Int) = _
  rw [BitVec.toNat_and, BitVec.toNat_not, h1, h2, IntKind.wrap_u64]
  have e : 2 ^ 64 - 1 - b = 18446744073709551615 - b := by omega
  rw [e]
  omega

theorem and_127 (z : Nat) (hz : z < 9223372036854775808) : bits BinOp.and IntKind.i64 (z : Int) 127 = ((z % 128 : Nat) : Int) := by
  have h1 : (BitVec.ofInt 64 (z : Int)).toNat = z := by
    rw [BitVec.ofInt_natCast, BitVec.toNat_ofNat]; exact Nat.mod_eq_of_lt (by omega)
  show IntKind.i64.wrap ((BitVec.ofInt 64 (z : Int) &&& BitVec.ofInt 64 (127 : Int)).toNat : Int) = _
  have h2 : (BitVec.ofInt 64 (127 : Int)).toNat = 2 ^ 7 - 1 := by decide
  rw [BitVec.toNat_and, h1, h2, Nat.and_two_pow_sub_one_eq_mod, IntKind.wrap_i64]
  have h3 : z % 2 ^ 7 < 128 := Nat.mod_lt _ (by omega)
  show _ = ((z % 2 ^ 7 : Nat) : Int)
  generalize z % 2 ^ 7 = m at h3 ⊢
  omega

set_option maxHeartbeats 400000 in
theorem only_any (f : Int) (w : World) :
    Calls Try.prog 37 #[.int .i64 f] w fun e w' => e = .returned (.int .u64 (FM.onlyN f : Nat)) ∧ w' = w := by
  by_cases h0 : 0 ≤ f
  · by_cases h1 : f < 64
    · obtain ⟨k, rfl⟩ := Int.eq_ofNat_of_zero_le h0
      have e : FM.onlyN (k : Int) = 2 ^ k := by unfold FM.onlyN; rw [if_pos ⟨h0, h1⟩]; simp
      rw [e]
      clear e
      go_enter Try.func37, Try.ntmps37
      go_wp2
      go_ret
      exact ⟨ret_int' (wrap_pow k (by omega)), rfl⟩
    · have e : FM.onlyN f = 0 := by unfold FM.onlyN; rw [if_neg (by omega)]
      rw [e]
      clear e
      go_enter Try.func37, Try.ntmps37
      go_wp2
      go_ret
      exact ⟨rfl, rfl⟩
  · have e : FM.onlyN f = 0 := by unfold FM.onlyN; rw [if_neg (by omega)]
    rw [e]
    clear e
    have hd : decide (f < 0) = true := by simp; omega
    go_enter Try.func37, Try.ntmps37
    go_wp2
    go_ret
    exact ⟨rfl, rfl⟩

theorem has_fact (s : Nat) (f : Int) (hs : s < 18446744073709551616) : (bits BinOp.and IntKind.u64 (s : Int) ((FM.onlyN f : Nat) : Int) != 0) = FM.hasN s f := by
  rw [bits_and_u64_nat s _ hs (FM.onlyN_lt f), ← FM.has_only]
  rw [Bool.eq_iff_iff]; simp

set_option maxHeartbeats 400000 in
theorem has_any (s : Nat) (f : Int) (w : World) (hs : s < 18446744073709551616) :
    Calls Try.prog 25 #[.int .u64 s, .int .i64 f] w fun e w' => e = .returned (.bool (FM.hasN s f)) ∧ w' = w := by
  go_enter Try.func25, Try.ntmps25
  go_wp2_with (go_at_call 37; refine (only_any _ _).mono ?_; rintro e w' ⟨rfl, rfl⟩)
  go_ret
  exact ⟨ret_bool (has_fact s f hs), rfl⟩
set_option maxHeartbeats 400000 in
theorem with_any (s : Nat) (f : Int) (w : World) (hs : s < 18446744073709551616) :
    Calls Try.prog 26 #[.int .u64 s, .int .i64 f] w fun e w' => e = .returned (.int .u64 (FM.withN s f : Nat)) ∧ w' = w := by
  go_enter Try.func26, Try.ntmps26
  go_wp2_with (go_at_call 37; refine (only_any _ _).mono ?_; rintro e w' ⟨rfl, rfl⟩)
  go_ret
  exact ⟨ret_int' (bits_or_u64_nat s _ hs (FM.onlyN_lt f)), rfl⟩
set_option maxHeartbeats 400000 in
theorem less_any (s : Nat) (f : Int) (w : World) (hs : s < 18446744073709551616) :
    Calls Try.prog 27 #[.int .u64 s, .int .i64 f] w fun e w' => e = .returned (.int .u64 (FM.lessN s f : Nat)) ∧ w' = w := by
  go_enter Try.func27, Try.ntmps27
  go_wp2_with (go_at_call 37; refine (only_any _ _).mono ?_; rintro e w' ⟨rfl, rfl⟩)
  go_ret
  exact ⟨ret_int' (bits_andNot_u64_nat s _ hs (FM.onlyN_lt f)), rfl⟩

set_option maxHeartbeats 400000 in
theorem ones_any (s : Nat) (w : World) (hs : s < 18446744073709551616) :
    Calls Try.prog 36 #[.int .u64 s] w fun e w' => e = .returned (.int .i64 (FM.cnt s 64)) ∧ w' = w := by
  obtain ⟨a1, ha1⟩ : ∃ a, a = (s / 2) &&& FM.mask 85 8 := ⟨_, rfl⟩
  obtain ⟨b1, hb1⟩ : ∃ a, a = s &&& FM.mask 85 8 := ⟨_, rfl⟩
  have m1 : FM.mask 85 8 = 6148914691236517205 := by decide
  have m2 : FM.mask 51 8 = 3689348814741910323 := by decide
  have m3 : FM.mask 15 8 = 1085102592571150095 := by decide
  have l1 : a1 ≤ 6148914691236517205 := by rw [ha1, m1]; exact Nat.and_le_right
  have l2 : b1 ≤ 6148914691236517205 := by rw [hb1, m1]; exact Nat.and_le_right
  obtain ⟨a2, ha2⟩ : ∃ a, a = ((a1 + b1) / 4) &&& FM.mask 51 8 := ⟨_, rfl⟩
  obtain ⟨b2, hb2⟩ : ∃ a, a = (a1 + b1) &&& FM.mask 51 8 := ⟨_, rfl⟩
  have l3 : a2 ≤ 3689348814741910323 := by rw [ha2, m2]; exact Nat.and_le_right
  have l4 : b2 ≤ 3689348814741910323 := by rw [hb2, m2]; exact Nat.and_le_right
  obtain ⟨x, hx⟩ : ∃ a, a = ((a2 + b2) / 16 + (a2 + b2)) &&& FM.mask 15 8 := ⟨_, rfl⟩
  have l5 : x ≤ 1085102592571150095 := by rw [hx, m3]; exact Nat.and_le_right
  have HA := Hid.intro' (FM.ones_all s x _ _ (by rw [hx]; unfold FM.x3 FM.x2 FM.x1; rw [← ha1, ← hb1, ← ha2, ← hb2]) rfl rfl)
  have e1 : bits BinOp.and IntKind.u64 ((s : Int) / 2) 6148914691236517205 = (a1 : Int) := by
    rw [ha1, m1, show ((s : Int) / 2) = ((s / 2 : Nat) : Int) by omega]
    exact bits_and_u64_nat (s / 2) 6148914691236517205 (by omega) (by decide)
  have e2 : bits BinOp.and IntKind.u64 (s : Int) 6148914691236517205 = (b1 : Int) := by
    rw [hb1, m1]; exact bits_and_u64_nat s 6148914691236517205 hs (by decide)
  have e3 : bits BinOp.and IntKind.u64 (((a1 : Int) + (b1 : Int)) / 4) 3689348814741910323 = (a2 : Int) := by
    rw [ha2, m2, show (((a1 : Int) + (b1 : Int)) / 4) = (((a1 + b1) / 4 : Nat) : Int) by omega]
    exact bits_and_u64_nat ((a1 + b1) / 4) 3689348814741910323 (by omega) (by decide)
  have e4 : bits BinOp.and IntKind.u64 ((a1 : Int) + (b1 : Int)) 3689348814741910323 = (b2 : Int) := by
    rw [hb2, m2, show ((a1 : Int) + (b1 : Int)) = ((a1 + b1 : Nat) : Int) by omega]
    exact bits_and_u64_nat (a1 + b1) 3689348814741910323 (by omega) (by decide)
  have e5 : bits BinOp.and IntKind.u64 (((a2 : Int) + (b2 : Int)) / 16 + ((a2 : Int) + (b2 : Int))) 1085102592571150095 = (x : Int) := by
    rw [hx, m3, show (((a2 : Int) + (b2 : Int)) / 16 + ((a2 : Int) + (b2 : Int))) = (((a2 + b2) / 16 + (a2 + b2) : Nat) : Int) by omega]
    exact bits_and_u64_nat ((a2 + b2) / 16 + (a2 + b2)) 1085102592571150095 (by omega) (by decide)
  clear ha1 hb1 ha2 hb2 hx m1 m2 m3
  go_enter Try.func36, Try.ntmps36
  go_wp2
  go_ret
  refine ⟨ret_int' ?_, rfl⟩
  have h := HA.out
  rw [← h.2, ← and_127 _ (by omega)]
  congr 1

set_option maxHeartbeats 400000 in
theorem len_any (s : Nat) (w : World) (hs : s < 18446744073709551616) :
    Calls Try.prog 24 #[.int .u64 s] w fun e w' => e = .returned (.int .i64 (FM.cnt s 64)) ∧ w' = w := by
  go_enter Try.func24, Try.ntmps24
  go_wp2_with (go_at_call 36; refine (ones_any _ _ hs).mono ?_; rintro e w' ⟨rfl, rfl⟩)
  go_ret
  exact ⟨rfl, rfl⟩

/-- all floors below one -/
def toN (n : Int) : Nat := if n < 1 then 0 else if n < 64 then 2 ^ n.toNat - 1 else 18446744073709551615
theorem toN_bit (n : Int) (i : Nat) (hi : i < 64) : (toN n).testBit i = decide ((i : Int) < n) := by
  unfold toN
  by_cases h1 : n < 1
  · rw [if_pos h1]; simp; omega
  · rw [if_neg h1]
    by_cases h2 : n < 64
    · rw [if_pos h2, Nat.testBit_two_pow_sub_one]; apply decide_eq_decide.2; omega
    · rw [if_neg h2]
      have := Nat.testBit_two_pow_sub_one 64 i
      rw [show (18446744073709551615 : Nat) = 2 ^ 64 - 1 by decide, this]; apply decide_eq_decide.2; omega
theorem toN_lt (n : Int) : toN n < 18446744073709551616 := by
  unfold toN
  split
  · omega
  · split
    · have h : n.toNat < 64 := by omega
      have := Nat.pow_lt_pow_right (a := 2) (by omega) h
      omega
    · omega
theorem to_mid (k : Nat) (h : k < 64) : IntKind.u64.wrap (IntKind.u64.wrap (2 ^ k) - 1) = ((2 ^ k - 1 : Nat) : Int) := by
  rw [wrap_pow k h, IntKind.wrap_u64]
  have h1 : (2 : Nat) ^ k < 2 ^ 64 := Nat.pow_lt_pow_right (by omega) h
  have h2 := Nat.two_pow_pos k
  generalize (2 : Nat) ^ k = m at h1 h2 ⊢
  omega

set_option maxHeartbeats 400000 in
theorem to_any (n : Int) (w : World) :
    Calls Try.prog 23 #[.int .i64 n] w fun e w' => e = .returned (.int .u64 (toN n : Nat)) ∧ w' = w := by
  by_cases h1 : n < 1
  · have e : toN n = 0 := by unfold toN; rw [if_pos h1]
    rw [e]; clear e
    go_enter Try.func23, Try.ntmps23
    go_wp2
    go_ret
    exact ⟨rfl, rfl⟩
  · by_cases h2 : n < 64
    · obtain ⟨k, rfl⟩ := Int.eq_ofNat_of_zero_le (show 0 ≤ n by omega)
      have e : toN (k : Int) = 2 ^ k - 1 := by unfold toN; rw [if_neg h1, if_pos h2]; simp
      rw [e]; clear e
      go_enter Try.func23, Try.ntmps23
      go_wp2
      go_ret
      exact ⟨ret_int' (to_mid k (by omega)), rfl⟩
    · have e : toN n = 18446744073709551615 := by unfold toN; rw [if_neg h1, if_neg h2]
      rw [e]; clear e
      go_enter Try.func23, Try.ntmps23
      go_wp2
      · go_ret
        exact ⟨rfl, rfl⟩
      · go_ret
        obtain rfl : n = 64 := by omega
        exact ⟨ret_int' (by rw [IntKind.wrap_u64, IntKind.wrap_u64]; decide), rfl⟩

/-- the set of a list -/
def ofN (l : List Int) : Nat := l.foldl (fun s f => FM.withN s f) 0
theorem ofN_snoc (l : List Int) (f : Int) : ofN (l ++ [f]) = FM.withN (ofN l) f := by simp [ofN]
theorem ofN_lt (l : List Int) : ofN l < 18446744073709551616 := by
  rcases List.eq_nil_or_concat l with h | ⟨l', x, h⟩
  · subst h; simp [ofN]
  · suffices ∀ (l : List Int) (s : Nat), s < 18446744073709551616 → l.foldl (fun s f => FM.withN s f) s < 18446744073709551616 from this l 0 (by omega)
    intro l
    induction l with
    | nil => intro s hs; exact hs
    | cons f l ih => intro s hs; exact ih _ (FM.withN_lt f hs)
theorem ofN_bit (l : List Int) (i : Nat) (hi : i < 64) : (ofN l).testBit i = l.contains (i : Int) := by
  suffices ∀ (l : List Int) (s : Nat), (l.foldl (fun s f => FM.withN s f) s).testBit i = (s.testBit i || l.contains (i : Int)) by
    have := this l 0
    simpa [ofN] using this
  intro l
  induction l with
  | nil => intro s; simp
  | cons f l ih =>
    intro s
    rw [List.foldl_cons, ih, FM.withN_bit s f i hi, List.contains_cons, Bool.or_assoc]
    congr 2
    rw [Bool.eq_iff_iff]; simp
    exact eq_comm
theorem take_snoc_f (zs : List Int) (k : Nat) (h : k < zs.length) : zs.take (k + 1) = zs.take k ++ [zs[k]?.getD 0] := by
  rw [List.take_succ_eq_append_getElem h]; simp [h]
theorem of_take (zs : List Int) (k : Nat) (h : k < zs.length) : FM.withN (ofN (zs.take k)) (zs[k]?.getD 0) = ofN (zs.take (k + 1)) := by
  rw [take_snoc_f zs k h, ofN_snoc]

set_option maxHeartbeats 400000 in
theorem of_any (b off len cap : Nat) (zs : List Int) (w : World) (hl : len ≤ zs.length) (hm : len ≤ 1000000)
    (hc : ∀ i, i < len → w.cell? ⟨b, off + i, none⟩ = some (.int .i64 (zs[i]?.getD 0))) :
    Calls Try.prog 21 #[.slice (some ⟨b, off, none⟩) len cap] w fun e w' => e = .returned (.int .u64 (ofN (zs.take len) : Nat)) ∧ w' = w := by
  go_enter Try.func21, Try.ntmps21
  go_wp2
  go_loop [3, 8] (fun t i => ∃ k : Nat, k ≤ len ∧ i = .int .i64 k ∧ t = .int .u64 (ofN (zs.take k) : Nat)) (fun _ i => len - (intOf i).toNat)
  case atStart => exact ⟨0, Nat.zero_le _, rfl, rfl⟩
  case round =>
    obtain ⟨k, hk, rfl, rfl⟩ := hrel
    by_cases hlt : k < len
    · have hcell := hc k hlt
      have HS : Hid (FM.withN (ofN (zs.take k)) (zs[k]?.getD 0) = ofN (zs.take (k + 1))) := of_take zs k (by omega)
      have hs := ofN_lt (zs.take k)
      clear hc
      go_wp2_with (go_at_call 26; refine (with_any _ _ _ hs).mono ?_; rintro e w' ⟨rfl, rfl⟩)
      go_round
      case rel => exact ⟨k + 1, by omega, by go_num, by rw [HS.out]⟩
      case measure => simp [intOf]; omega
    · obtain rfl : k = len := by omega
      clear hc
      go_wp2
      go_ret
      exact ⟨rfl, rfl⟩

set_option maxHeartbeats 400000 in
theorem of_nil (a : Option Addr) (cap : Nat) (w : World) :
    Calls Try.prog 21 #[.slice a 0 cap] w fun e w' => e = .returned (.int .u64 0) ∧ w' = w := by
  go_enter Try.func21, Try.ntmps21
  go_wp2
  go_loop [3, 8] (fun t i => i = .int .i64 0 ∧ t = .int .u64 0) (fun _ _ => 0)
  case atStart => exact ⟨rfl, rfl⟩
  case round =>
    obtain ⟨rfl, rfl⟩ := hrel
    go_wp2
    go_ret
    exact ⟨rfl, rfl⟩

end Go.Proofs.Ytklekpkchpnmiaa
