/- The document's example. -/
import Derived.Test.YtdkhobhffdgliabSiteP
import Derived.Test.YtdkhobhffdgliabSiteU
namespace Go.Proofs.Ytdkhobhffdgliab
open Go.RowKit

theorem right_t (s : St) (r : SM.Rt s) (w : World) : Calls Try.prog 7 #[.agg (sv s).toArray] w fun e w' => e = .returned (.bool true) ∧ Below w.heap.size w w' := by
  have := right_any s w
  rwa [rightB_true r] at this
theorem right_f (s : St) (r : ¬ SM.Rt s) (w : World) : Calls Try.prog 7 #[.agg (sv s).toArray] w fun e w' => e = .returned (.bool false) ∧ Below w.heap.size w w' := by
  have := right_any s w
  rwa [rightB_false r] at this
theorem rright_t (s : St) (r : SM.Rt s) (w : World) : Calls Try.prog 8 #[.agg (sv s).toArray] w fun e w' => e = .returned (.bool true) ∧ Below w.heap.size w w' := by
  have := rright_any s w
  rwa [rightB_true r] at this
theorem rright_f (s : St) (r : ¬ SM.Rt s) (w : World) : Calls Try.prog 8 #[.agg (sv s).toArray] w fun e w' => e = .returned (.bool false) ∧ Below w.heap.size w w' := by
  have := rright_any s w
  rwa [rightB_false r] at this

def exS : St := ⟨5, 1, 2, 3, 4, 1, 1, 1, 0, 1, 1, 1, 1⟩
def noS : St := ⟨0, 0, 0, 0, 0, 0, 0, 0, 0, 0, 0, 0, 0⟩
theorem exS_rt : SM.Rt exS := by constructor <;> decide
theorem noS_rt : ¬ SM.Rt noS := fun r => by have := r.fl1; revert this; decide
theorem ex_trav : SM.trav exS 1 3 = 12 := by decide
theorem travel_ex (w : World) : Calls Try.prog 11 #[.agg (sv exS).toArray, .int .i64 1, .int .i64 3] w fun e w' => e = .returned (.int .i64 12) ∧ Below w.heap.size w w' := by
  have := travel_any exS exS_rt 1 3 w
  rwa [ex_trav] at this

set_option maxHeartbeats 2000000 in
theorem speaks_any (w : World) :
    Calls Try.prog 6 #[] w fun e w' => e = .returned (.bool true) ∧ Below w.heap.size w w' := by
  have HB : Hid (Below w.heap.size w (w.alloc (.cells (sv exS).toArray 23))) := Hid.intro' ((Below.refl _ w).alloc (Nat.le_refl _) _)
  have HN := Hid.intro' (SB.new w exS)
  go_enter Try.func6, Try.ntmps6
  go_wp2_with fail
  refine (right_t exS exS_rt _).mono ?_
  rintro e W1 ⟨rfl, hb⟩
  have HS := Hid.intro' (SB.below' HN.out hb)
  have HB1 := Hid.intro' (below_class HB.out hb)
  clear hb HB HN
  have hc0 : W1.cell? ⟨w.heap.size, 0, none⟩ = some (.int .i64 5) := HS.out.cell 0
  have hc1 : W1.cell? ⟨w.heap.size, 1, none⟩ = some (.int .i64 1) := HS.out.cell 1
  have hc2 : W1.cell? ⟨w.heap.size, 2, none⟩ = some (.int .i64 2) := HS.out.cell 2
  have hc3 : W1.cell? ⟨w.heap.size, 3, none⟩ = some (.int .i64 3) := HS.out.cell 3
  have hc4 : W1.cell? ⟨w.heap.size, 4, none⟩ = some (.int .i64 4) := HS.out.cell 4
  have hc5 : W1.cell? ⟨w.heap.size, 5, none⟩ = some (.int .i64 1) := HS.out.cell 5
  have hc6 : W1.cell? ⟨w.heap.size, 6, none⟩ = some (.int .i64 1) := HS.out.cell 6
  have hc7 : W1.cell? ⟨w.heap.size, 7, none⟩ = some (.int .i64 1) := HS.out.cell 7
  have hc8 : W1.cell? ⟨w.heap.size, 8, none⟩ = some (.int .i64 0) := HS.out.cell 8
  have hc9 : W1.cell? ⟨w.heap.size, 9, none⟩ = some (.int .i64 1) := HS.out.cell 9
  have hc10 : W1.cell? ⟨w.heap.size, 10, none⟩ = some (.int .i64 1) := HS.out.cell 10
  have hc11 : W1.cell? ⟨w.heap.size, 11, none⟩ = some (.int .i64 1) := HS.out.cell 11
  have hc12 : W1.cell? ⟨w.heap.size, 12, none⟩ = some (.int .i64 1) := HS.out.cell 12
  go_wp2_with fail
  refine (travel_ex _).mono ?_
  rintro e W2 ⟨rfl, hb⟩
  have HB2 := Hid.intro' (below_class HB1.out hb)
  clear hb hc0 hc1 hc2 hc3 hc4 hc5 hc6 hc7 hc8 hc9 hc10 hc11 hc12 HS HB1
  go_wp2_with fail
  refine (right_f noS noS_rt _).mono ?_
  rintro e W3 ⟨rfl, hb⟩
  have HB3 := Hid.intro' (below_class HB2.out hb)
  clear hb HB2
  go_wp2
  go_ret
  exact ⟨rfl, HB3.out⟩

end Go.Proofs.Ytdkhobhffdgliab
