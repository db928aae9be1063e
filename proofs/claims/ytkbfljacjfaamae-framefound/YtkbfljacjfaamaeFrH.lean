/- The document's Decode; both, of any bytes. -/
import Derived.Test.YtkbfljacjfaamaeFrG
namespace Go.Proofs.Ytkbfljacjfaamae
open Go.RowKit

theorem list10 {l : List Nat} (h : l.length = 10) : ∃ x0 x1 x2 x3 x4 x5 x6 x7 x8 x9, l = [x0, x1, x2, x3, x4, x5, x6, x7, x8, x9] := by
  match l, h with
  | [x0, x1, x2, x3, x4, x5, x6, x7, x8, x9], _ => exact ⟨x0, x1, x2, x3, x4, x5, x6, x7, x8, x9, rfl⟩
theorem de_few {l : List Nat} (h : l.length ≠ 10) : FC.de l = 3 := by unfold FC.de; rw [if_neg (fun e => h e.1)]
theorem df_few {l : List Nat} (h : l.length ≠ 10) : FC.df l = noF := by unfold FC.df; rw [de_few h]; rfl
theorem decode_any (v : Value) (l : List Nat) (w : World) (h : RD w v l) :
    Calls Try.prog 16 #[v] w fun e w' => e = .returned (.tuple #[.agg #[.int .i64 (FC.df l).ki, .int .i64 (FC.df l).ca, .int .i64 (FC.df l).sq, .int .i64 (FC.df l).a, .int .i64 (FC.df l).b, .int .i64 (FC.df l).c], .int .i64 (FC.de l : Nat)]) ∧ Below w.heap.size w w' := by
  by_cases hl : l.length = 10
  · obtain ⟨a, cap, rfl, hc, hm, ha⟩ := h.form
    obtain ⟨x0, x1, x2, x3, x4, x5, x6, x7, x8, x9, rfl⟩ := list10 hl
    rcases ha with ha | ⟨g, o, rfl, _⟩
    · cases ha
    · exact decode_ten g o cap x0 x1 x2 x3 x4 x5 x6 x7 x8 x9 w h
  · rw [de_few hl, df_few hl]
    exact decode_few v l w h hl
end Go.Proofs.Ytkbfljacjfaamae
