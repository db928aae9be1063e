/- Travel, service and bound, as the document's answer reckons them. -/
import Derived.Test.YtkcppidmbojglafSiteB
import Derived.Test.YtkcppidmbojglafSiteM
import Derived.Deep.RegionHeld3
import Derived.Deep.DrawnRows
import Derived.Test.YtkcppidmbojglafSiteT
namespace Go.Proofs.Ytkcppidmbojglaf
open Go.RowKit

theorem SB.c0 {W : World} {b : Nat} {s : St} (h : SB W b s) : W.cell? ⟨b, 0, none⟩ = some (.int .i64 s.fl) := h.cell 0
theorem SB.c2 {W : World} {b : Nat} {s : St} (h : SB W b s) : W.cell? ⟨b, 2, none⟩ = some (.int .i64 s.sta) := h.cell 2
theorem SB.c3 {W : World} {b : Nat} {s : St} (h : SB W b s) : W.cell? ⟨b, 3, none⟩ = some (.int .i64 s.ste) := h.cell 3
theorem SB.c4 {W : World} {b : Nat} {s : St} (h : SB W b s) : W.cell? ⟨b, 4, none⟩ = some (.int .i64 s.sto) := h.cell 4
theorem SB.c5 {W : World} {b : Nat} {s : St} (h : SB W b s) : W.cell? ⟨b, 5, none⟩ = some (.int .i64 s.opn) := h.cell 5
theorem SB.c6 {W : World} {b : Nat} {s : St} (h : SB W b s) : W.cell? ⟨b, 6, none⟩ = some (.int .i64 s.wai) := h.cell 6
theorem SB.c7 {W : World} {b : Nat} {s : St} (h : SB W b s) : W.cell? ⟨b, 7, none⟩ = some (.int .i64 s.clo) := h.cell 7
theorem SB.c8 {W : World} {b : Nat} {s : St} (h : SB W b s) : W.cell? ⟨b, 8, none⟩ = some (.int .i64 s.nud) := h.cell 8
theorem SB.c9 {W : World} {b : Nat} {s : St} (h : SB W b s) : W.cell? ⟨b, 9, none⟩ = some (.int .i64 s.age) := h.cell 9
theorem SB.c12 {W : World} {b : Nat} {s : St} (h : SB W b s) : W.cell? ⟨b, 12, none⟩ = some (.int .i64 s.per) := h.cell 12

set_option maxHeartbeats 1000000 in
theorem rtravel_out (s : St) (a b : Int) (w : World) (HO : Hid (a < 0 ∨ b < 0 ∨ s.fl ≤ a ∨ s.fl ≤ b ∨ a = b)) :
    Calls Try.prog 26 #[.agg (sv s).toArray, .int .i64 a, .int .i64 b] w fun e w' => e = .returned (.int .i64 (SM.trav s a b)) ∧ Below w.heap.size w w' := by
  have n0 := SB.new w s
  have hc0 := n0.c0
  have hc2 := n0.c2
  have hc4 := n0.c4
  have HB : Hid (Below w.heap.size w (w.alloc (.cells (sv s).toArray 23))) := Hid.intro' ((Below.refl _ w).alloc (Nat.le_refl _) _)
  have HT := Hid.intro' (SM.trav_out HO.out)
  clear n0
  go_enter Try.func26, Try.ntmps26
  go_wp2
  all_goals first
    | (go_ret; exact ⟨ret_int HT.out.symm, HB.out⟩)
    | (exfalso; have := HO.out; simp only [beq_eq_false_iff_ne] at *; omega)

theorem SM.step_one (c x a : Int) : c * (x + 1 - a) = c * (x - a) + c := by
  rw [show x + 1 - a = (x - a) + 1 by omega, Int.mul_add, Int.mul_one]
theorem SM.step_less (c x a : Int) : c * (a - (x - 1)) = c * (a - x) + c := by
  rw [show a - (x - 1) = (a - x) + 1 by omega, Int.mul_add, Int.mul_one]

set_option maxHeartbeats 1000000 in
theorem rtravel_up (s : St) (r : SM.Rt s) (a b : Int) (w : World) (h2 : b < s.fl) (h1 : 0 ≤ a) (hlt : a < b) :
    Calls Try.prog 26 #[.agg (sv s).toArray, .int .i64 a, .int .i64 b] w fun e w' => e = .returned (.int .i64 (SM.trav s a b)) ∧ Below w.heap.size w w' := by
  have n0 := SB.new w s
  have hc0 := n0.c0
  have hc2 := n0.c2
  have hc3 := n0.c3
  have hc4 := n0.c4
  have HB : Hid (Below w.heap.size w (w.alloc (.cells (sv s).toArray 23))) := Hid.intro' ((Below.refl _ w).alloc (Nat.le_refl _) _)
  have f1 := r.fl2
  have a1 := r.sta1
  have a2 := r.sta2
  have a3 := r.sto1
  have a4 := r.sto2
  have a5 := r.ste1
  have a6 := r.ste2
  have hx : (a == b) = false := by simp; omega
  have HT := Hid.intro' (SM.trav_in (s := s) h1 (show 0 ≤ b by omega) (show a < s.fl by omega) h2 (show a ≠ b by omega))
  have HD := Hid.intro' (show SM.dist a b = b - a by unfold SM.dist; rw [if_pos hlt])
  have R := Hid.intro' r
  clear n0 r
  go_enter Try.func26, Try.ntmps26
  go_wp2
  go_loop [1, 7] (fun t u => ∃ x m : Int, a ≤ x ∧ x ≤ b ∧ 0 ≤ m ∧ m ≤ 63000 ∧ t = .int .i64 x ∧ u = .int .i64 (s.sta + s.sto + m) ∧ Hid (m = s.ste * (x - a))) (fun t _ => (b - intOf t).toNat)
  case atStart => exact ⟨a, 0, by omega, by omega, by omega, by omega, rfl, by go_num, Hid.intro' (by simp)⟩
  case round =>
    obtain ⟨x, m, hx1, hx2, hm1, hm2, rfl, rfl, HM⟩ := hrel
    by_cases hl : x < b
    · have HM2 := Hid.intro' (show m + s.ste = s.ste * (x + 1 - a) by rw [SM.step_one, ← HM.out])
      have hb := SM.step_bd R.out (d := x + 1 - a) (by omega) (by omega)
      rw [← HM2.out] at hb
      obtain ⟨hb1, hb2⟩ := hb
      go_wp2
      go_round
      case rel => exact ⟨x + 1, m + s.ste, by omega, by omega, by omega, by omega, by go_num, by go_num, HM2⟩
      case measure => simp [intOf]; omega
    · obtain rfl : x = b := by omega
      go_wp2
      go_loop [1, 7] (fun t u => t = .int .i64 x ∧ u = .int .i64 (s.sta + s.sto + m)) (fun _ _ => 0)
      case atStart => exact ⟨rfl, rfl⟩
      case round =>
        obtain ⟨rfl, rfl⟩ := hrel
        go_wp2
        go_ret
        exact ⟨ret_int (by rw [HT.out, HD.out, ← HM.out]; omega), HB.out⟩
set_option maxHeartbeats 1000000 in
theorem rtravel_down (s : St) (r : SM.Rt s) (a b : Int) (w : World) (h2 : a < s.fl) (h1 : 0 ≤ b) (hlt : b < a) :
    Calls Try.prog 26 #[.agg (sv s).toArray, .int .i64 a, .int .i64 b] w fun e w' => e = .returned (.int .i64 (SM.trav s a b)) ∧ Below w.heap.size w w' := by
  have n0 := SB.new w s
  have hc0 := n0.c0
  have hc2 := n0.c2
  have hc3 := n0.c3
  have hc4 := n0.c4
  have HB : Hid (Below w.heap.size w (w.alloc (.cells (sv s).toArray 23))) := Hid.intro' ((Below.refl _ w).alloc (Nat.le_refl _) _)
  have f1 := r.fl2
  have a1 := r.sta1
  have a2 := r.sta2
  have a3 := r.sto1
  have a4 := r.sto2
  have a5 := r.ste1
  have a6 := r.ste2
  have hx : (a == b) = false := by simp; omega
  have HT := Hid.intro' (SM.trav_in (s := s) (show 0 ≤ a by omega) h1 h2 (show b < s.fl by omega) (show a ≠ b by omega))
  have HD := Hid.intro' (show SM.dist a b = a - b by unfold SM.dist; rw [if_neg (by omega)])
  have R := Hid.intro' r
  clear n0 r
  go_enter Try.func26, Try.ntmps26
  go_wp2
  go_loop [1, 7] (fun t u => t = .int .i64 a ∧ u = .int .i64 (s.sta + s.sto)) (fun _ _ => 0)
  case atStart => exact ⟨rfl, rfl⟩
  case round =>
    obtain ⟨rfl, rfl⟩ := hrel
    go_wp2
    go_loop [1, 7] (fun t u => ∃ x m : Int, b ≤ x ∧ x ≤ a ∧ 0 ≤ m ∧ m ≤ 63000 ∧ t = .int .i64 x ∧ u = .int .i64 (s.sta + s.sto + m) ∧ Hid (m = s.ste * (a - x))) (fun t _ => (intOf t - b).toNat)
    case atStart => exact ⟨a, 0, by omega, by omega, by omega, by omega, rfl, by go_num, Hid.intro' (by simp)⟩
    case round =>
      obtain ⟨x, m, hx1, hx2, hm1, hm2, rfl, rfl, HM⟩ := hrel
      by_cases hl : b < x
      · have HM2 := Hid.intro' (show m + s.ste = s.ste * (a - (x - 1)) by rw [SM.step_less, ← HM.out])
        have hb := SM.step_bd R.out (d := a - (x - 1)) (by omega) (by omega)
        rw [← HM2.out] at hb
        obtain ⟨hb1, hb2⟩ := hb
        go_wp2
        go_round
        case rel => exact ⟨x - 1, m + s.ste, by omega, by omega, by omega, by omega, by go_num, by go_num, HM2⟩
        case measure => simp [intOf]; omega
      · obtain rfl : x = b := by omega
        go_wp2
        go_ret
        exact ⟨ret_int (by rw [HT.out, HD.out, ← HM.out]; omega), HB.out⟩
theorem rtravel_any (s : St) (r : SM.Rt s) (a b : Int) (w : World) :
    Calls Try.prog 26 #[.agg (sv s).toArray, .int .i64 a, .int .i64 b] w fun e w' => e = .returned (.int .i64 (SM.trav s a b)) ∧ Below w.heap.size w w' := by
  by_cases hout : a < 0 ∨ b < 0 ∨ s.fl ≤ a ∨ s.fl ≤ b ∨ a = b
  · exact rtravel_out s a b w hout
  · have hne : ¬ a = b := by omega
    rcases Int.lt_or_lt_of_ne hne with hlt | hlt
    · exact rtravel_up s r a b w (by omega) (by omega) hlt
    · exact rtravel_down s r a b w (by omega) (by omega) hlt

end Go.Proofs.Ytkcppidmbojglaf
