/- A link in the midst of a law; the document's example; low bits; a slice of numbers. -/
import Derived.Test.YtoigickgknbbfaeLkB
import Derived.Laws.BitsLemmas
namespace Go.Proofs.Ytoigickgknbbfae
open Go.RowKit

/-- a link that the law has made -/
structure Ls (w W : World) (b : Nat) (x : Lk) : Prop where
  lb : LB W b x
  bel : Below w.heap.size w W
  lo : w.heap.size ≤ b
section
variable {w W W' : World} {b : Nat} {x x' : Lk}
theorem Ls.next (h : Ls w W b x) (hb : Below W.heap.size W W') : Ls w W' b x := ⟨h.lb.below' hb, below_class h.bel hb, h.lo⟩
theorem Ls.upd (h : Ls w W b x) (hl : LB W' b x') (k : Kb b W W') : Ls w W' b x' := ⟨hl, k.below h.bel h.bel.size h.lo, h.lo⟩
theorem Ls.new (h : Below w.heap.size w W) : Ls w (W.alloc (.cells #[.bool false, .int .u16 0, .int .i64 0] 66)) W.heap.size LM.z :=
  ⟨LB.new W LM.z, h.alloc h.size _, h.size⟩
end

set_option maxHeartbeats 1000000 in
theorem speaks_any (w : World) : Calls Try.prog 14 #[] w fun e w' => e = .returned (.bool true) ∧ Below w.heap.size w w' := by
  go_enter Try.func14, Try.ntmps14
  go_wp2_with fail
  refine (new_any _).mono ?_
  rintro e W1 ⟨rfl, hW⟩
  have H1 : Hid (Ls w W1 w.heap.size LM.z) := by subst hW; exact Ls.new (Below.refl _ _)
  clear hW
  generalize w.heap.size = b at H1 ⊢
  go_wp2_with fail
  refine (silent_any LM.z b _ H1.out.lb).mono ?_
  rintro e W ⟨rfl, hW⟩
  subst hW
  rw [show LM.si LM.z = -1 from rfl]
  go_wp2_with fail
  refine (take_any LM.z 65535 b _ H1.out.lb).mono ?_
  rw [show LM.err LM.z 65535 = 0 from rfl, show LM.tk LM.z 65535 = ⟨true, 65535, 0⟩ from rfl]
  rintro e W2 ⟨rfl, hl2, hk2⟩
  have H2 := Hid.intro' (H1.out.upd hl2 hk2)
  clear hl2 hk2 H1
  go_wp2_with fail
  refine (take_any ⟨true, 65535, 0⟩ 0 b _ H2.out.lb).mono ?_
  rw [show LM.err ⟨true, 65535, 0⟩ 0 = 0 from rfl, show LM.tk ⟨true, 65535, 0⟩ 0 = ⟨true, 0, 0⟩ from rfl]
  rintro e W3 ⟨rfl, hl3, hk3⟩
  have H3 := Hid.intro' (H2.out.upd hl3 hk3)
  clear hl3 hk3 H2
  go_wp2_with fail
  refine (take_any ⟨true, 0, 0⟩ 0 b _ H3.out.lb).mono ?_
  rw [show LM.err ⟨true, 0, 0⟩ 0 = 7 from rfl, show LM.tk ⟨true, 0, 0⟩ 0 = ⟨true, 0, 0⟩ from rfl]
  rintro e W4 ⟨rfl, hl4, hk4⟩
  have H4 := Hid.intro' (H3.out.upd hl4 hk4)
  clear hl4 hk4 H3
  go_wp2
  go_ret
  exact ⟨rfl, H4.out.bel⟩

/-- the low bits of a number -/
theorem i64_mask (n m : Int) (k : Nat) (hk : k ≤ 62) (hm : (BitVec.ofInt 64 m).toNat = 2 ^ k - 1) : bits .and .i64 n m = n % (2 ^ k : Nat) := by
  have key : (BitVec.ofInt 64 n &&& BitVec.ofInt 64 m).toNat = (n % ((2 ^ 64 : Nat) : Int)).toNat % 2 ^ k := by
    rw [BitVec.toNat_and, BitVec.toNat_ofInt, hm, Nat.and_two_pow_sub_one_eq_mod]
  show IntKind.i64.wrap ((BitVec.ofInt 64 n &&& BitVec.ofInt 64 m).toNat : Nat) = _
  have hd : (2 : Nat) ^ k ∣ 2 ^ 64 := Nat.pow_dvd_pow 2 (by omega)
  have hle : (2 : Nat) ^ k ≤ 2 ^ 62 := Nat.pow_le_pow_right (by decide) hk
  have hpos : 0 < (2 : Nat) ^ k := Nat.pow_pos (by decide)
  generalize hK : (2 : Nat) ^ k = K at key hd hle hpos
  rw [key]
  obtain ⟨c, hc⟩ := hd
  have h1 : ((n % ((2 ^ 64 : Nat) : Int)).toNat % K : Nat) = (n % (K : Int)).toNat := by
    have h0 : (0 : Int) ≤ n % ((2 ^ 64 : Nat) : Int) := Int.emod_nonneg _ (by decide)
    have h2 : (0 : Int) ≤ n % (K : Int) := Int.emod_nonneg _ (by omega)
    apply Int.ofNat.inj
    show (((n % ((2 ^ 64 : Nat) : Int)).toNat % K : Nat) : Int) = ((n % (K : Int)).toNat : Int)
    rw [Int.natCast_emod, Int.toNat_of_nonneg h0, Int.toNat_of_nonneg h2]
    exact Int.emod_emod_of_dvd n ⟨(c : Int), by rw [hc]; exact Int.natCast_mul K c⟩
  rw [h1, IntKind.wrap_i64]
  have h2 : (0 : Int) ≤ n % (K : Int) := Int.emod_nonneg _ (by omega)
  have h3 : n % (K : Int) < (K : Int) := Int.emod_lt_of_pos _ (by omega)
  omega
theorem i64_and127 (n : Int) : bits .and .i64 n 127 = n % 128 := i64_mask n 127 7 (by omega) (by decide)
theorem i64_and255 (n : Int) : bits .and .i64 n 255 = n % 256 := i64_mask n 255 8 (by omega) (by decide)
theorem i64_and32767 (n : Int) : bits .and .i64 n 32767 = n % 32768 := i64_mask n 32767 15 (by omega) (by decide)
theorem i64_andffff (n : Int) : bits .and .i64 n 65535 = n % 65536 := i64_mask n 65535 16 (by omega) (by decide)

end Go.Proofs.Ytoigickgknbbfae
