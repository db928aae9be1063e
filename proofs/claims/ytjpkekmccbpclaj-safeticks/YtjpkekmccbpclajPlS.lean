/- Snapshots in memory, and which are right, as the program tells it. -/
import Derived.Test.YtjpkekmccbpclajPk2
import Derived.Test.YtjpkekmccbpclajPk4
import Derived.Deep.Quiet
import Derived.Deep.QuietTactic
import Derived.BigQuiet
import Derived.Shelf.Abstract
import Derived.Laws.BitsLemmas
namespace Go.Proofs.Ytjpkekmccbpclaj
open Go.RowKit

/-- a snapshot -/
structure Sn where
  st : St
  cs : List (Int × Int)
  ws : List (Int × Int)
/-- the cells of a snapshot -/
def nv (s : St) (vc vw : Value) : List Value := [.int .i64 s.fl, .int .i64 s.ca, .int .i64 s.sta, .int .i64 s.ste, .int .i64 s.sto, .int .i64 s.opn, .int .i64 s.wai, .int .i64 s.clo, .int .i64 s.nud, .int .i64 s.age, .int .i64 s.sil, .int .i64 s.bud, .int .i64 s.per, vc, vw]
theorem nv_length (s : St) (vc vw : Value) : (nv s vc vw).length = 15 := rfl
section
variable {W W' : World} {b : Nat} {s : St} {vc vw : Value}
end
/-- may these be cars, wants of a site? -/
def cok (fl : Int) (x : Int × Int) : Bool := decide (0 ≤ x.1) && decide (x.1 < fl) && decide (0 ≤ x.2) && decide (x.2 ≤ 1000000)
def wok (fl : Int) (n : Nat) (x : Int × Int) : Bool := decide (0 ≤ x.1) && decide (x.1 < fl) && decide (0 < x.2) && decide (x.2 < 2 ^ n)
/-- is a snapshot right? -/
def rgt (s : Sn) : Bool := rightB s.st && decide ((s.cs.length : Int) = s.st.ca) && decide (s.ws.length ≤ 128) && s.cs.all (cok s.st.fl) && s.ws.all (wok s.st.fl s.st.ca.toNat)

/-- the low bits of a number -/
theorem i64_mask (n m : Int) (k : Nat) (hk : k ≤ 62) (hm : (BitVec.ofInt 64 m).toNat = 2 ^ k - 1) : bits .and .i64 n m = n % (2 ^ k : Nat) := by
  have key : (BitVec.ofInt 64 n &&& BitVec.ofInt 64 m).toNat = (n % ((2 ^ 64 : Nat) : Int)).toNat % 2 ^ k := by
    rw [BitVec.toNat_and, BitVec.toNat_ofInt, hm, Nat.and_two_pow_sub_one_eq_mod]
  show IntKind.i64.wrap ((BitVec.ofInt 64 n &&& BitVec.ofInt 64 m).toNat : Nat) = _
  have hd : (2 : Nat) ^ k ∣ 2 ^ 64 := Nat.pow_dvd_pow 2 (by omega)
  have hle : (2 : Nat) ^ k ≤ 2 ^ 62 := Nat.pow_le_pow_right (by decide) hk
  have hpos : 0 < (2 : Nat) ^ k := Nat.pow_pos (by decide)
  generalize hK : (2 : Nat) ^ k = K at key hd hle hpos
  rw [key]
  obtain ⟨c, hc⟩ := hd
  have h1 : ((n % ((2 ^ 64 : Nat) : Int)).toNat % K : Nat) = (n % (K : Int)).toNat := by
    have h0 : (0 : Int) ≤ n % ((2 ^ 64 : Nat) : Int) := Int.emod_nonneg _ (by decide)
    have h2 : (0 : Int) ≤ n % (K : Int) := Int.emod_nonneg _ (by omega)
    apply Int.ofNat.inj
    show (((n % ((2 ^ 64 : Nat) : Int)).toNat % K : Nat) : Int) = ((n % (K : Int)).toNat : Int)
    rw [Int.natCast_emod, Int.toNat_of_nonneg h0, Int.toNat_of_nonneg h2]
    exact Int.emod_emod_of_dvd n ⟨(c : Int), by rw [hc]; exact Int.natCast_mul K c⟩
  rw [h1, IntKind.wrap_i64]
  have h2 : (0 : Int) ≤ n % (K : Int) := Int.emod_nonneg _ (by omega)
  have h3 : n % (K : Int) < (K : Int) := Int.emod_lt_of_pos _ (by omega)
  omega
theorem i64_andffff (n : Int) : bits .and .i64 n 65535 = n % 65536 := i64_mask n 65535 16 (by omega) (by decide)
theorem i64_andfff (n : Int) : bits .and .i64 n 4095 = n % 4096 := i64_mask n 4095 12 (by omega) (by decide)
theorem i64_and1 (n : Int) : bits .and .i64 n 1 = n % 2 := i64_mask n 1 1 (by omega) (by decide)
theorem shr_any (m c : Nat) (hc : c ≤ 64) (W : World) : (binOp .shr 3 (.int .i64 (m : Int)) (.int .i64 (c : Int))).run Try.prog W = .ok (.int .i64 ((m / 2 ^ c : Nat) : Int)) W := by
  rw [binOp_shr, shift_shr_any .i64 .i64 (m : Int) (c : Int) (by omega)]
  show Result.ok (Value.int .i64 ((m : Int) / 2 ^ min (c : Int).toNat 64)) W = _
  rw [Int.toNat_natCast, Nat.min_eq_left hc, Int.natCast_ediv, Int.natCast_pow]; rfl
theorem pow_wrap {n : Nat} (hn : n ≤ 8) : wrap64 (2 ^ n) = 2 ^ n := by
  have h : (2 : Int) ^ n ≤ 256 ∧ 0 ≤ (2 : Int) ^ n := by
    have : n = 0 ∨ n = 1 ∨ n = 2 ∨ n = 3 ∨ n = 4 ∨ n = 5 ∨ n = 6 ∨ n = 7 ∨ n = 8 := by omega
    rcases this with rfl | rfl | rfl | rfl | rfl | rfl | rfl | rfl | rfl
    all_goals decide
  exact IntWalk.wrap64_in _ (by omega)

/- the closures of Right -/
end Go.Proofs.Ytjpkekmccbpclaj
