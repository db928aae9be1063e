/- Plain mathematics of counting the bits of a number of 64 bits, byte by byte. No program is named here. -/
import Derived.Test.YtklekpkchpnmiaaFloorsM
namespace Go.Proofs.Ytklekpkchpnmiaa.FM

/-- a mask of n bytes -/
def mask (k : Nat) : Nat → Nat
  | 0 => 0
  | n + 1 => 256 * mask k n + k
theorem and_byte (a m x y : Nat) (hx : x < 256) (hy : y < 256) : (256 * a + x) &&& (256 * m + y) = 256 * (a &&& m) + (x &&& y) := by
  have hxy : x &&& y < 256 := Nat.lt_of_le_of_lt Nat.and_le_left hx
  apply Nat.eq_of_testBit_eq
  intro i
  by_cases hi : i < 8
  · rw [Nat.testBit_and, bit_lo a x i hx hi, bit_lo m y i hy hi, bit_lo _ _ i hxy hi, Nat.testBit_and]
  · obtain ⟨j, rfl⟩ : ∃ j, i = 8 + j := ⟨i - 8, by omega⟩
    rw [Nat.testBit_and, bit_hi a x j hx, bit_hi m y j hy, bit_hi _ _ j hxy, Nat.testBit_and]

def x1 (n s : Nat) : Nat := ((s / 2) &&& mask 85 n) + (s &&& mask 85 n)
def x2 (n s : Nat) : Nat := ((s / 4) &&& mask 51 n) + (s &&& mask 51 n)
def x3 (n s : Nat) : Nat := (s / 16 + s) &&& mask 15 n
def p1 (b : Nat) : Nat := ((b / 2) &&& 85) + (b &&& 85)
def p2 (b : Nat) : Nat := ((b / 4) &&& 51) + (b &&& 51)
def p3 (b : Nat) : Nat := (b / 16 + b) &&& 15

theorem t1 : ∀ r : Fin 2, ∀ b : Fin 128, (128 * r.val + b.val) &&& 85 = b.val &&& 85 := by decide +kernel
theorem t2 : ∀ r : Fin 4, ∀ b : Fin 64, (64 * r.val + b.val) &&& 51 = b.val &&& 51 := by decide +kernel
theorem t3 : ∀ b : Fin 256, p1 b.val < 256 ∧ p2 (p1 b.val) % 16 ≤ 4 ∧ p2 (p1 b.val) / 16 ≤ 4 ∧ p3 (p2 (p1 b.val)) = cnt b.val 8 ∧ p2 (p1 b.val) < 256 := by decide +kernel
theorem t4 : ∀ r : Fin 5, ∀ h : Fin 5, ∀ l : Fin 5, (16 * r.val + (16 * h.val + l.val) / 16 + (16 * h.val + l.val)) &&& 15 = ((16 * h.val + l.val) / 16 + (16 * h.val + l.val)) &&& 15 := by decide +kernel

theorem x1_step (n q b : Nat) (hb : b < 256) : x1 (n + 1) (256 * q + b) = 256 * x1 n q + p1 b := by
  unfold x1 p1
  have e : (256 * q + b) / 2 = 256 * (q / 2) + (128 * (q % 2) + b / 2) := by omega
  have h1 := t1 ⟨q % 2, by omega⟩ ⟨b / 2, by omega⟩
  simp only at h1
  show ((256 * q + b) / 2 &&& (256 * mask 85 n + 85)) + ((256 * q + b) &&& (256 * mask 85 n + 85)) = _
  rw [e, and_byte _ _ _ _ (by omega) (by omega), and_byte _ _ _ _ hb (by omega), h1]
  omega
theorem x2_step (n q b : Nat) (hb : b < 256) : x2 (n + 1) (256 * q + b) = 256 * x2 n q + p2 b := by
  unfold x2 p2
  have e : (256 * q + b) / 4 = 256 * (q / 4) + (64 * (q % 4) + b / 4) := by omega
  have h1 := t2 ⟨q % 4, by omega⟩ ⟨b / 4, by omega⟩
  simp only at h1
  show ((256 * q + b) / 4 &&& (256 * mask 51 n + 51)) + ((256 * q + b) &&& (256 * mask 51 n + 51)) = _
  rw [e, and_byte _ _ _ _ (by omega) (by omega), and_byte _ _ _ _ hb (by omega), h1]
  omega
theorem x3_step (n q b : Nat) (hb1 : b % 16 ≤ 4) (hb2 : b / 16 ≤ 4) (hq : q % 16 ≤ 4) : x3 (n + 1) (256 * q + b) = 256 * x3 n q + p3 b := by
  unfold x3 p3
  have e : (256 * q + b) / 16 + (256 * q + b) = 256 * (q / 16 + q) + (16 * (q % 16) + b / 16 + b) := by omega
  have h1 := t4 ⟨q % 16, by omega⟩ ⟨b / 16, by omega⟩ ⟨b % 16, by omega⟩
  simp only at h1
  rw [show 16 * (b / 16) + b % 16 = b by omega] at h1
  show ((256 * q + b) / 16 + (256 * q + b)) &&& (256 * mask 15 n + 15) = _
  rw [e, and_byte _ _ _ _ (by omega) (by omega), h1]

/-- the counts of the bytes, each in its byte -/
def byt (s : Nat) : Nat → Nat
  | 0 => 0
  | n + 1 => 256 * byt (s / 256) n + cnt (s % 256) 8
theorem low_ok (n s : Nat) : x2 n (x1 n s) % 16 ≤ 4 := by
  cases n with
  | zero => simp [x2, x1, mask]
  | succ n =>
    have e : s = 256 * (s / 256) + s % 256 := by omega
    have hb : s % 256 < 256 := by omega
    have h3 := t3 ⟨s % 256, hb⟩
    simp only at h3
    rw [e, x1_step n _ _ hb, x2_step n _ _ h3.1]
    omega
theorem x3_byt (n : Nat) : ∀ s, x3 n (x2 n (x1 n s)) = byt s n := by
  induction n with
  | zero => intro s; simp [x3, mask, byt]
  | succ n ih =>
    intro s
    have hb : s % 256 < 256 := by omega
    have h3 := t3 ⟨s % 256, hb⟩
    simp only at h3
    have e : x1 (n + 1) s = 256 * x1 n (s / 256) + p1 (s % 256) := by
      rw [← x1_step n _ _ hb]; congr 1; omega
    rw [e, x2_step n _ _ h3.1, x3_step n _ _ h3.2.1 h3.2.2.1 (low_ok n _), ih, h3.2.2.2.1]
    rfl
/-- the sum of the bytes -/
def bsum (s : Nat) : Nat → Nat
  | 0 => 0
  | n + 1 => bsum (s / 256) n + cnt (s % 256) 8
theorem cnt_zero (m : Nat) : cnt 0 m = 0 := by
  induction m with
  | zero => rfl
  | succ m ih => unfold cnt; rw [ih]; simp
theorem bsum_cnt (n : Nat) : ∀ s, bsum s n = cnt s (8 * n) := by
  induction n with
  | zero => intro s; rfl
  | succ n ih =>
    intro s
    have e := cnt_split (s / 256) (s % 256) (8 * n) (by omega)
    rw [show 256 * (s / 256) + s % 256 = s by omega] at e
    rw [show 8 * (n + 1) = 8 + 8 * n by omega, e]
    show bsum (s / 256) n + _ = _
    rw [ih]; omega
theorem div_of {x q r d : Nat} (h : x = d * q + r) (hr : r < d) : x / d = q := by
  subst h
  rw [Nat.mul_add_div (by omega), Nat.div_eq_of_lt hr, Nat.add_zero]
theorem last_sum (c0 c1 c2 c3 c4 c5 c6 c7 : Nat) (h0 : c0 ≤ 8) (h1 : c1 ≤ 8) (h2 : c2 ≤ 8) (h3 : c3 ≤ 8) (h4 : c4 ≤ 8) (h5 : c5 ≤ 8) (h6 : c6 ≤ 8) (h7 : c7 ≤ 8) (x y z : Nat)
    (A B C D E F : Nat) (hF : F = 256 * c7 + c6) (hE : E = 256 * F + c5) (hD : D = 256 * E + c4) (hC : C = 256 * D + c3) (hB : B = 256 * C + c2) (hA : A = 256 * B + c1)
    (hx : x = 256 * A + c0)
    (hy : y = x + x / 256) (hz : z = y + y / 65536) : z + z / 4294967296 < 18446744073709551616 ∧ (z + z / 4294967296) % 128 = c0 + c1 + c2 + c3 + c4 + c5 + c6 + c7 := by
  have e1 : x / 256 = A := div_of hx (by omega)
  rw [e1] at hy
  have hy' : y = 65536 * (B + C) + (256 * c2 + 257 * c1 + c0) := by omega
  have e2 : y / 65536 = B + C := div_of hy' (by omega)
  rw [e2] at hz
  have hz' : z = 4294967296 * (D + E + F + c7) + (65536 * (256 * (c3 + c4 + c5 + c6) + (c2 + c3 + c4 + c5)) + (256 * c2 + 257 * c1 + c0) + 256 * (c3 + c4) + c2 + c3) := by omega
  have e3 : z / 4294967296 = D + E + F + c7 := div_of hz' (by omega)
  rw [e3]
  have hw : z + (D + E + F + c7) = 128 * (33554432 * (D + E + F + c7) + 512 * (256 * (c3 + c4 + c5 + c6) + (c2 + c3 + c4 + c5)) + 2 * c2 + 2 * c1 + 2 * (c3 + c4) + 2 * E + 2 * F + 2 * c7) + (c0 + c1 + c2 + c3 + c4 + c5 + c6 + c7) := by omega
  refine ⟨by omega, ?_⟩
  rw [hw, Nat.mul_add_mod, Nat.mod_eq_of_lt (by omega)]
/-- all steps together -/
theorem ones_all (s : Nat) (x y z : Nat) (hx : x = x3 8 (x2 8 (x1 8 s))) (hy : y = x + x / 256) (hz : z = y + y / 65536) :
    z + z / 4294967296 < 18446744073709551616 ∧ (z + z / 4294967296) % 128 = cnt s 64 := by
  have hb : bsum s 8 = cnt s 64 := bsum_cnt 8 s
  rw [x3_byt] at hx
  have h := last_sum (cnt (s % 256) 8) (cnt (s / 256 % 256) 8) (cnt (s / 256 / 256 % 256) 8) (cnt (s / 256 / 256 / 256 % 256) 8) (cnt (s / 256 / 256 / 256 / 256 % 256) 8)
    (cnt (s / 256 / 256 / 256 / 256 / 256 % 256) 8) (cnt (s / 256 / 256 / 256 / 256 / 256 / 256 % 256) 8) (cnt (s / 256 / 256 / 256 / 256 / 256 / 256 / 256 % 256) 8)
    (cnt_le _ 8) (cnt_le _ 8) (cnt_le _ 8) (cnt_le _ 8) (cnt_le _ 8) (cnt_le _ 8) (cnt_le _ 8) (cnt_le _ 8) x y z _ _ _ _ _ _ rfl rfl rfl rfl rfl rfl (by rw [hx]; simp only [byt, Nat.mul_zero, Nat.zero_add]) hy hz
  refine ⟨h.1, ?_⟩
  rw [h.2, ← hb]
  show _ = 0 + cnt _ 8 + cnt _ 8 + cnt _ 8 + cnt _ 8 + cnt _ 8 + cnt _ 8 + cnt _ 8 + cnt _ 8
  omega

end Go.Proofs.Ytklekpkchpnmiaa.FM
