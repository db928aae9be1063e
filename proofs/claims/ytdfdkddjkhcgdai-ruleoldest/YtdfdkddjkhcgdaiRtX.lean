/- The example of the document, and rows that are typed. -/
import Derived.Test.YtdfdkddjkhcgdaiPk3
namespace Go.Proofs.Ytdfdkddjkhcgdai
open Go.RowKit

/-- the example's site -/
def exSt : St := ⟨5, 1, 0, 2, 0, 3, 1, 1, 0, 1, 1, 1, 1⟩
/-- the example -/
def exSn (a : Int) : Sn := ⟨exSt, [(0, a)], [(0, 1)]⟩
theorem R2.lit1 (D : Nat → Prop) (W : World) (b cap : Nat) (y : Int × Int) (hD : D b) (hl : b < W.heap.size) (hc : 1 ≤ cap) (h1 : W.cell? ⟨b, 0, none⟩ = some (.int .i64 y.1)) (h2 : W.cell? ⟨b, 1, none⟩ = some (.int .i64 y.2)) : R2 D W (.slice (some ⟨b, 0, none⟩) 1 cap) [y] := by
  refine ⟨_, cap, rfl, hc, (fun e => by cases e), .inr ⟨b, 0, rfl, hD, hl, fun i z hz => ?_⟩⟩
  cases i with
  | zero => cases hz; exact ⟨h1, h2⟩
  | succ i => simp at hz
theorem RL.lit1 (D : Nat → Prop) (W : World) (b cap : Nat) (u : Value) (l : List Int) (hD : D b) (hl : b < W.heap.size) (hc : 1 ≤ cap) (h1 : W.cell? ⟨b, 0, none⟩ = some u) (h2 : RI D W u l) : RL D W (.slice (some ⟨b, 0, none⟩) 1 cap) [l] := by
  refine ⟨_, cap, rfl, hc, (fun e => by cases e), .inr ⟨b, 0, rfl, hD, hl, fun i m hm => ?_⟩⟩
  cases i with
  | zero => cases hm; exact ⟨u, h1, h2⟩
  | succ i => simp at hm
theorem RI.lit1 (D : Nat → Prop) (W : World) (b cap : Nat) (x : Int) (hD : D b) (hl : b < W.heap.size) (hc : 1 ≤ cap) (h1 : W.cell? ⟨b, 0, none⟩ = some (.int .i64 x)) : RI D W (.slice (some ⟨b, 0, none⟩) 1 cap) [x] := by
  refine ⟨_, cap, rfl, hc, (fun e => by cases e), .inr ⟨b, 0, rfl, hD, hl, fun i y hy => ?_⟩⟩
  cases i with
  | zero => cases hy; exact h1
  | succ i => simp at hy
theorem RI.lit0 (D : Nat → Prop) (W : World) (b : Nat) : RI D W (.slice (some ⟨b, 0, none⟩) 0 0) [] := ⟨_, 0, rfl, Nat.le_refl _, (fun e => by cases e), .inl rfl⟩

end Go.Proofs.Ytdfdkddjkhcgdai
