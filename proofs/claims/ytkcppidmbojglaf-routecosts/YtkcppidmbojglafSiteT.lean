/- Travel, as the program reckons it. -/
import Derived.Test.YtkcppidmbojglafSiteB
import Derived.Test.YtkcppidmbojglafSiteM
import Derived.Test.YtkcppidmbojglafNumWalks
import Derived.Deep.RegionHeld3
import Derived.Deep.DrawnRows
namespace Go.Proofs.Ytkcppidmbojglaf
open Go.RowKit

theorem new_drew (W : World) (o : Obj) (n : Nat) (hn : W.heap.size = n) : ((W.alloc o).drew).heap[n]? = some o := by subst hn; exact World.alloc_heap_new W o
theorem new_at (W : World) (o : Obj) (n : Nat) (hn : W.heap.size = n) : (W.alloc o).heap[n]? = some o := by subst hn; exact World.alloc_heap_new W o
/-- the sum of a row that is a block -/
theorem sum_row (W : World) (n : Nat) (zs : List Int) (L C : Nat) (hl : zs.length = L) (hm : L ≤ 100) (hn : W.heap[n]? = some (.cells (zs.map fun z => Value.int .i64 z).toArray 3)) :
    Calls Try.prog 42 #[.slice (some ⟨n, 0, none⟩) L C] W fun e w' => e = .returned (.int .i64 (NumM.sumL zs)) ∧ w' = W := by
  subst hl
  have := sum_any n 0 zs.length C zs W (Nat.le_refl _) (by omega) (fun i hi => by
    rw [Nat.zero_add]
    have e : W.cell? ⟨n, i, none⟩ = (zs.map fun z => Value.int .i64 z).toArray[i]? := by unfold World.cell?; rw [hn]; rfl
    rw [e]
    simp [hi])
  rwa [List.take_length] at this
theorem sum3 (W : World) (n : Nat) (x y z : Int) (C : Nat) (hn : W.heap[n]? = some (.cells #[.int .i64 x, .int .i64 y, .int .i64 z] 3)) :
    Calls Try.prog 42 #[.slice (some ⟨n, 0, none⟩) 3 C] W fun e w' => e = .returned (.int .i64 (NumM.sumL [x, y, z])) ∧ w' = W :=
  sum_row W n [x, y, z] 3 C rfl (by omega) hn
theorem sum4 (W : World) (n : Nat) (x y z u : Int) (C : Nat) (hn : W.heap[n]? = some (.cells #[.int .i64 x, .int .i64 y, .int .i64 z, .int .i64 u] 3)) :
    Calls Try.prog 42 #[.slice (some ⟨n, 0, none⟩) 4 C] W fun e w' => e = .returned (.int .i64 (NumM.sumL [x, y, z, u])) ∧ w' = W :=
  sum_row W n [x, y, z, u] 4 C rfl (by omega) hn

set_option maxHeartbeats 1000000 in
theorem travel_out (s : St) (a b : Int) (w : World) (HO : Hid (a < 0 ∨ b < 0 ∨ s.fl ≤ a ∨ s.fl ≤ b ∨ a = b)) :
    Calls Try.prog 45 #[.agg (sv s).toArray, .int .i64 a, .int .i64 b] w fun e w' => e = .returned (.int .i64 (SM.trav s a b)) ∧ Below w.heap.size w w' := by
  have n0 := SB.new w s
  have hc0 : (w.alloc (.cells (sv s).toArray 23)).cell? ⟨w.heap.size, 0, none⟩ = some (.int .i64 s.fl) := n0.cell 0
  have HB : Hid (Below w.heap.size w (w.alloc (.cells (sv s).toArray 23))) := Hid.intro' ((Below.refl _ w).alloc (Nat.le_refl _) _)
  have HT := Hid.intro' (SM.trav_out HO.out)
  clear n0
  go_enter Try.func45, Try.ntmps45
  go_wp2
  all_goals first
    | (go_ret; exact ⟨ret_int HT.out.symm, HB.out⟩)
    | (exfalso; have := HO.out; simp only [beq_eq_false_iff_ne] at *; omega)
set_option maxHeartbeats 1000000 in
theorem travel_up (s : St) (a b : Int) (w : World) (h2 : b < s.fl) (f1 : s.fl ≤ 64) (h1 : 0 ≤ a) (hlt : a < b) (HS : Hid (NumM.sumL [s.sta, NumM.cl (NumM.cl s.ste * NumM.cl (b - a)), s.sto] = SM.trav s a b)) :
    Calls Try.prog 45 #[.agg (sv s).toArray, .int .i64 a, .int .i64 b] w fun e w' => e = .returned (.int .i64 (SM.trav s a b)) ∧ Below w.heap.size w w' := by
  have n0 := SB.new w s
  have hc0 : (w.alloc (.cells (sv s).toArray 23)).cell? ⟨w.heap.size, 0, none⟩ = some (.int .i64 s.fl) := n0.cell 0
  have hc2 : (w.alloc (.cells (sv s).toArray 23)).cell? ⟨w.heap.size, 2, none⟩ = some (.int .i64 s.sta) := n0.cell 2
  have hc3 : (w.alloc (.cells (sv s).toArray 23)).cell? ⟨w.heap.size, 3, none⟩ = some (.int .i64 s.ste) := n0.cell 3
  have hc4 : (w.alloc (.cells (sv s).toArray 23)).cell? ⟨w.heap.size, 4, none⟩ = some (.int .i64 s.sto) := n0.cell 4
  have HB : Hid (Below w.heap.size w (w.alloc (.cells (sv s).toArray 23))) := Hid.intro' ((Below.refl _ w).alloc (Nat.le_refl _) _)
  have hx : (a == b) = false := by simp; omega
  clear n0
  go_enter Try.func45, Try.ntmps45
  go_wp2
  go_region_held3 (fun w' => w'.cell? ⟨w.heap.size, 2, none⟩ = some (.int .i64 s.sta) ∧ w'.cell? ⟨w.heap.size, 3, none⟩ = some (.int .i64 s.ste) ∧ w'.cell? ⟨w.heap.size, 4, none⟩ = some (.int .i64 s.sto)) (go_keep) (first | (go_at_call 58; refine (mul_any _ _ _).mono ?_; rintro e w' ⟨rfl, rfl⟩) | (go_at_call 42; refine (sum3 _ _ _ _ _ _ (new_drew _ _ _ (World.size_alloc _ _))).mono ?_; rintro e w' ⟨rfl, rfl⟩))
  go_wp2
  go_ret
  exact ⟨ret_int (by rw [IntWalk.i64_in _ ⟨by omega, by omega⟩]; exact HS.out), (HB.out.alloc (by simp) _).drew⟩
set_option maxHeartbeats 1000000 in
theorem travel_down (s : St) (a b : Int) (w : World) (h2 : a < s.fl) (f1 : s.fl ≤ 64) (h1 : 0 ≤ b) (hlt : b < a) (HS : Hid (NumM.sumL [s.sta, NumM.cl (NumM.cl s.ste * NumM.cl (a - b)), s.sto] = SM.trav s a b)) :
    Calls Try.prog 45 #[.agg (sv s).toArray, .int .i64 a, .int .i64 b] w fun e w' => e = .returned (.int .i64 (SM.trav s a b)) ∧ Below w.heap.size w w' := by
  have n0 := SB.new w s
  have hc0 : (w.alloc (.cells (sv s).toArray 23)).cell? ⟨w.heap.size, 0, none⟩ = some (.int .i64 s.fl) := n0.cell 0
  have hc2 : (w.alloc (.cells (sv s).toArray 23)).cell? ⟨w.heap.size, 2, none⟩ = some (.int .i64 s.sta) := n0.cell 2
  have hc3 : (w.alloc (.cells (sv s).toArray 23)).cell? ⟨w.heap.size, 3, none⟩ = some (.int .i64 s.ste) := n0.cell 3
  have hc4 : (w.alloc (.cells (sv s).toArray 23)).cell? ⟨w.heap.size, 4, none⟩ = some (.int .i64 s.sto) := n0.cell 4
  have HB : Hid (Below w.heap.size w (w.alloc (.cells (sv s).toArray 23))) := Hid.intro' ((Below.refl _ w).alloc (Nat.le_refl _) _)
  have hx : (b == a) = false := by simp; omega
  clear n0
  go_enter Try.func45, Try.ntmps45
  go_wp2
  go_region_held3 (fun w' => w'.cell? ⟨w.heap.size, 2, none⟩ = some (.int .i64 s.sta) ∧ w'.cell? ⟨w.heap.size, 3, none⟩ = some (.int .i64 s.ste) ∧ w'.cell? ⟨w.heap.size, 4, none⟩ = some (.int .i64 s.sto)) (go_keep) (first | (go_at_call 58; refine (mul_any _ _ _).mono ?_; rintro e w' ⟨rfl, rfl⟩) | (go_at_call 42; refine (sum3 _ _ _ _ _ _ (new_drew _ _ _ (World.size_alloc _ _))).mono ?_; rintro e w' ⟨rfl, rfl⟩))
  go_wp2
  go_ret
  exact ⟨ret_int (by rw [IntWalk.i64_in _ ⟨by omega, by omega⟩]; exact HS.out), (HB.out.alloc (by simp) _).drew⟩
theorem travel_any (s : St) (r : SM.Rt s) (a b : Int) (w : World) :
    Calls Try.prog 45 #[.agg (sv s).toArray, .int .i64 a, .int .i64 b] w fun e w' => e = .returned (.int .i64 (SM.trav s a b)) ∧ Below w.heap.size w w' := by
  by_cases hout : a < 0 ∨ b < 0 ∨ s.fl ≤ a ∨ s.fl ≤ b ∨ a = b
  · exact travel_out s a b w hout
  · have f1 := r.fl2
    have hne : ¬ a = b := by omega
    have HS := SM.travel_sum r (a := a) (b := b) (by omega) (by omega) (by omega) (by omega) hne
    unfold SM.dist at HS
    rcases Int.lt_or_lt_of_ne hne with hlt | hlt
    · rw [if_pos hlt] at HS
      exact travel_up s a b w (by omega) f1 (by omega) hlt HS
    · rw [if_neg (by omega)] at HS
      exact travel_down s a b w (by omega) f1 (by omega) hlt HS

end Go.Proofs.Ytkcppidmbojglaf
