/- Where the cells of a slice of numbers lie. -/
import Derived.Test.YtoigickgknbbfaeLkS
namespace Go.Proofs.Ytoigickgknbbfae
open Go.RowKit

theorem ixI (W : World) {a : Option Addr} {g o n cap j : Nat} (ha : a = some ⟨g, o, none⟩) (hj : j < n) : (Instr.indexAt 55 (.slice a n cap) (.int .i64 (j : Int))).run Try.prog W = .ok (.pointer (some ⟨g, o + j, none⟩)) W := by
  subst ha
  rw [run_indexAt_slice W 55 _ n cap .i64 j (by kernel_rfl), if_pos ⟨by omega, by omega⟩, show Try.prog.elem 55 = 3 by kernel_rfl, Try.sizeOf3]
  simp only [Result.andThen_ok, Int.toNat_natCast, Addr.add_mid, Nat.mul_one]
/-- a slice of numbers that was handed in, as long as nothing old is written -/
def IS (w : World) (a : Option Addr) (len : Nat) : Prop :=
  len = 0 ∨ ∃ b off, a = some ⟨b, off, none⟩ ∧ ∀ w', Below w.heap.size w w' → ∀ i, i < len → ∃ v, w'.cell? ⟨b, off + i, none⟩ = some (.int .i64 v)
theorem IS.at {w W : World} {a : Option Addr} {len : Nat} (h : IS w a len) (hb : Below w.heap.size w W) {i : Nat} (hi : i < len) : ∃ b off v, a = some ⟨b, off, none⟩ ∧ W.cell? ⟨b, off + i, none⟩ = some (.int .i64 v) := by
  rcases h with h | ⟨b, off, ha, h⟩
  · omega
  · obtain ⟨v, hv⟩ := h W hb i hi
    exact ⟨b, off, v, ha, hv⟩
theorem mask_ffff (n : Int) : ∃ K : Nat, K < 65536 ∧ bits .and .i64 n 65535 = (K : Int) := ⟨(n % 65536).toNat, by omega, by rw [i64_andffff]; omega⟩
theorem mask_7fff (n : Int) : ∃ K : Nat, K < 32768 ∧ bits .and .i64 n 32767 = (K : Int) := ⟨(n % 32768).toNat, by omega, by rw [i64_and32767]; omega⟩
theorem mask_255 (n : Int) : ∃ K : Nat, K < 256 ∧ bits .and .i64 n 255 = (K : Int) := ⟨(n % 256).toNat, by omega, by rw [i64_and255]; omega⟩
theorem mask_127 (n : Int) : ∃ K : Nat, K < 128 ∧ bits .and .i64 n 127 = (K : Int) := ⟨(n % 128).toNat, by omega, by rw [i64_and127]; omega⟩

end Go.Proofs.Ytoigickgknbbfae
