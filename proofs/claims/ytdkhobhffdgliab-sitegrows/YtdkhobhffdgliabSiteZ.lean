/- The walk of the law SiteGrows, all cases. -/
import Derived.Test.YtdkhobhffdgliabSiteY0
import Derived.Test.YtdkhobhffdgliabSiteY1
import Derived.Test.YtdkhobhffdgliabSiteY2
import Derived.Test.YtdkhobhffdgliabSiteY3
import Derived.Test.YtdkhobhffdgliabSiteY4
import Derived.Test.YtdkhobhffdgliabSiteY5
import Derived.Test.YtdkhobhffdgliabSiteY6
import Derived.Test.YtdkhobhffdgliabSiteY7
namespace Go.Proofs.Ytdkhobhffdgliab
open Go.RowKit

set_option maxRecDepth 100000 in
set_option maxHeartbeats 2000000 in
theorem grows_not (s : St) (hr : ¬ SM.Rt s) (a h : Int) (w : World) :
    Calls Try.prog 5 #[.agg (sv s).toArray, .int .i64 a, .int .i64 h] w fun e w' => e = .returned (.bool true) ∧ Below w.heap.size w w' := by
  have HB : Hid (Below w.heap.size w (w.alloc (.cells (sv s).toArray 23))) := Hid.intro' ((Below.refl _ w).alloc (Nat.le_refl _) _)
  have HN := Hid.intro' (SB.new w s)
  go_enter Try.func5, Try.ntmps5
  go_wp2_with fail
  obtain ⟨B, hB⟩ : ∃ B, w.heap.size = B := ⟨_, rfl⟩
  rw [show Value.pointer (some ⟨w.heap.size, 0, none⟩) = Value.pointer (some ⟨B, 0, none⟩) by rw [hB]]
  rw [hB] at HN
  refine (speaks_any _).mono ?_
  rintro e W1 ⟨rfl, hb⟩
  have HS := Hid.intro' (SB.below' HN.out hb)
  have HB1 := Hid.intro' (below_class HB.out hb)
  clear hb HN HB
  go_wp2_with (refine wpList_load23 rfl _ rfl B s rfl HS.out ?_)
  refine (rright_f s hr _).mono ?_
  rintro e W2 ⟨rfl, hb⟩
  have HB2 := Hid.intro' (below_class HB1.out hb)
  clear hb HS HB1
  go_wp2
  go_ret
  exact ⟨rfl, HB2.out⟩

theorem beq_cases (x y : Int) : (x == y) = true ∨ (x == y) = false := by cases x == y <;> simp

theorem grows_of (s : St) (a h : Int) (w : World) :
    Calls Try.prog 5 #[.agg (sv s).toArray, .int .i64 a, .int .i64 h] w fun e w' => e = .returned (.bool true) ∧ Below w.heap.size w w' := by
  by_cases hr : SM.Rt s
  · rcases beq_cases (bits BinOp.and IntKind.i64 a 7) 0 with k0 | k0
    · exact grows_0 s hr a h k0 w
    · rcases beq_cases (bits BinOp.and IntKind.i64 a 7) 1 with k1 | k1
      · exact grows_1 s hr a h k0 k1 w
      · rcases beq_cases (bits BinOp.and IntKind.i64 a 7) 2 with k2 | k2
        · exact grows_2 s hr a h k0 k1 k2 w
        · rcases beq_cases (bits BinOp.and IntKind.i64 a 7) 3 with k3 | k3
          · exact grows_3 s hr a h k0 k1 k2 k3 w
          · rcases beq_cases (bits BinOp.and IntKind.i64 a 7) 4 with k4 | k4
            · exact grows_4 s hr a h k0 k1 k2 k3 k4 w
            · rcases beq_cases (bits BinOp.and IntKind.i64 a 7) 5 with k5 | k5
              · exact grows_5 s hr a h k0 k1 k2 k3 k4 k5 w
              · rcases beq_cases (bits BinOp.and IntKind.i64 a 7) 6 with k6 | k6
                · exact grows_6 s hr a h k0 k1 k2 k3 k4 k5 k6 w
                · exact grows_7 s hr a h k0 k1 k2 k3 k4 k5 k6 w
  · exact grows_not s hr a h w

end Go.Proofs.Ytdkhobhffdgliab
