/- Two lists that are one: the document's own look. -/
import Derived.Test.YtklekpkchpnmiaaFloorsGoN
import Derived.Deep.QuietTactic
import Derived.BigQuiet
namespace Go.Proofs.Ytklekpkchpnmiaa
open Go.RowKit

theorem below_drewN {B : Nat} {a w : World} (h : Below B a w) (m : Nat) : Below B a (w.drewN m) := ⟨h.os, h.tape, h.output, h.size, h.block⟩

set_option maxRecDepth 100000 in
set_option maxHeartbeats 1000000 in
theorem same_some (b1 o1 b2 o2 n c1 c2 : Nat) (zs : List Value) (w : World) (hn : n ≤ 1000) (hz : ∀ i, i < n → ∃ x : Int, zs[i]? = some (.int .i64 x))
    (h1 : ∀ i, i < n → w.cell? ⟨b1, o1 + i, none⟩ = zs[i]?) (h2 : ∀ i, i < n → w.cell? ⟨b2, o2 + i, none⟩ = zs[i]?) :
    Calls Try.prog 33 #[.slice (some ⟨b1, o1, none⟩) n c1, .slice (some ⟨b2, o2, none⟩) n c2] w fun e w' => e = .returned (.bool true) ∧ ∃ m, w' = w.drewN m := by
  go_enter Try.func33, Try.ntmps33
  go_wp2
  go_loopw [5] (fun i wr => ∃ k m : Nat, k ≤ n ∧ i = .int .i64 k ∧ wr = w.drewN m) (fun i _ => n - (intOf i).toNat)
  case atStart => exact ⟨0, 0, Nat.zero_le _, rfl, rfl⟩
  case round =>
    obtain ⟨k, m, hk, rfl, rfl⟩ := hrel
    by_cases hlt : k < n
    · obtain ⟨x, hx⟩ := hz k hlt
      have e1 := (h1 k hlt).trans hx
      have e2 := (h2 k hlt).trans hx
      have hltI : (k : Int) < (n : Int) := by omega
      clear h1 h2 hz hx
      go_wp2_with fail
      go_quiet (fail)
      go_wp2
      go_roundw
      case rel => exact ⟨k + 1, _, by omega, by go_num, rfl⟩
      case measure => simp [intOf]; omega
    · obtain rfl : k = n := by omega
      clear h1 h2 hz
      go_wp2
      go_ret
      exact ⟨rfl, _, rfl⟩

set_option maxHeartbeats 400000 in
theorem same_nil (a b : Option Addr) (c1 c2 : Nat) (w : World) :
    Calls Try.prog 33 #[.slice a 0 c1, .slice b 0 c2] w fun e w' => e = .returned (.bool true) ∧ ∃ m, w' = w.drewN m := by
  go_enter Try.func33, Try.ntmps33
  go_wp2
  go_loop [5] (fun i => i = .int .i64 0) (fun _ => 0)
  case atStart => rfl
  case round =>
    obtain rfl := hrel
    go_wp2
    go_ret
    exact ⟨rfl, 0, rfl⟩

/-- the first n elements of a slice, where they lie -/
def RowAt (w : World) (p : Option Addr) (n : Nat) (zs : List Value) : Prop := n = 0 ∨ ∃ b o, p = some ⟨b, o, none⟩ ∧ ∀ i, i < n → w.cell? ⟨b, o + i, none⟩ = zs[i]?
theorem same_any (p q : Option Addr) (n c1 c2 : Nat) (zs : List Value) (w : World) (hn : n ≤ 1000) (hz : ∀ i, i < n → ∃ x : Int, zs[i]? = some (.int .i64 x)) (h1 : RowAt w p n zs) (h2 : RowAt w q n zs) :
    Calls Try.prog 33 #[.slice p n c1, .slice q n c2] w fun e w' => e = .returned (.bool true) ∧ ∃ m, w' = w.drewN m := by
  rcases h1 with rfl | ⟨b1, o1, rfl, h1⟩
  · exact same_nil _ _ _ _ _
  · rcases h2 with rfl | ⟨b2, o2, rfl, h2⟩
    · exact same_nil _ _ _ _ _
    · exact same_some b1 o1 b2 o2 n c1 c2 zs w hn hz h1 h2

end Go.Proofs.Ytklekpkchpnmiaa
