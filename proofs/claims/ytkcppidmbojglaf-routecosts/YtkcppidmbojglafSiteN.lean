/- Plain mathematics: ways, and what is below what. -/
import Derived.Test.YtkcppidmbojglafSiteM
namespace Go.Proofs.Ytkcppidmbojglaf.SM

theorem dist_comm (a b : Int) : dist a b = dist b a := by unfold dist; split <;> split <;> omega
theorem dist_tri (a b c : Int) : dist a c ≤ dist a b + dist b c := by unfold dist; split <;> split <;> split <;> omega
theorem dist_nn (a b : Int) : 0 ≤ dist a b := by unfold dist; split <;> omega
theorem dist_pos {a b : Int} (h : a ≠ b) : 1 ≤ dist a b := by unfold dist; split <;> omega
theorem trav_comm (s : St) (a b : Int) : trav s a b = trav s b a := by
  unfold trav; rw [dist_comm]
  by_cases h : a < 0 ∨ b < 0 ∨ s.fl ≤ a ∨ s.fl ≤ b ∨ a = b
  · rw [if_pos h, if_pos (by omega)]
  · rw [if_neg h, if_neg (by omega)]
theorem trav_pos {s : St} (r : Rt s) {a b : Int} (h1 : 0 ≤ a) (h2 : 0 ≤ b) (h3 : a < s.fl) (h4 : b < s.fl) (h : a ≠ b) : 1 ≤ trav s a b := by
  rw [trav_in h1 h2 h3 h4 h]
  have d := dist_pos h
  have e := mul_bd (a := 1) (b := dist a b) (A := s.ste) (B := dist a b) (by omega) r.ste1 (by omega) (by omega)
  have := r.sta1; have := r.sto1
  omega
theorem trav_tri {s : St} (r : Rt s) {a b c : Int} (h1 : 0 ≤ a) (h2 : 0 ≤ b) (h3 : 0 ≤ c) (h4 : a < s.fl) (h5 : b < s.fl) (h6 : c < s.fl) : trav s a c ≤ trav s a b + trav s b c := by
  have g1 := (trav_bd r a b).1
  have g2 := (trav_bd r b c).1
  by_cases e1 : a = c
  · rw [trav_out (by omega)]; omega
  · by_cases e2 : a = b
    · subst e2; rw [trav_out (a := a) (b := a) (by omega)]; omega
    · by_cases e3 : b = c
      · subst e3; rw [trav_out (a := b) (b := b) (by omega)]; omega
      · rw [trav_in h1 h3 h4 h6 e1, trav_in h1 h2 h4 h5 e2, trav_in h2 h3 h5 h6 e3]
        have t := dist_tri a b c
        have m : s.ste * dist a c ≤ s.ste * (dist a b + dist b c) := Int.mul_le_mul_of_nonneg_left t (by have := r.ste1; omega)
        rw [Int.mul_add] at m
        have := r.sta1; have := r.sto1
        omega
theorem step_le {s : St} (r : Rt s) {d e : Int} (h : d ≤ e) : s.ste * d ≤ s.ste * e := Int.mul_le_mul_of_nonneg_left h (by have := r.ste1; omega)
theorem trav_lt_ser {s : St} (r : Rt s) (a b h : Int) : trav s a b < ser s h := by
  have n := (nudge_bd r h).1
  have u := (run_bd r).1
  have := r.sta1; have := r.sto1; have := r.fl1
  unfold trav ser
  split
  · have := (step_bd r (d := s.fl - 1) (by omega) (by have := r.fl2; omega)).1; omega
  · rename_i hh
    have d : dist a b ≤ s.fl - 1 := by unfold dist; split <;> omega
    have := step_le r d
    omega
theorem ser_lt_bou {s : St} (r : Rt s) (h : Int) : ser s h < bou s h := by
  have := ser_bd r h
  have := r.age1; have := r.per1
  unfold bou; omega
theorem hol_mono {h g : Int} (h1 : h ≤ g) : hol h ≤ hol g := by
  unfold hol; split <;> split <;> (try split) <;> (try split) <;> omega
theorem ser_mono {s : St} (r : Rt s) {h g : Int} (h1 : h ≤ g) : ser s h ≤ ser s g := by
  have m : s.nud * (run s + hol h) ≤ s.nud * (run s + hol g) := Int.mul_le_mul_of_nonneg_left (by have := hol_mono h1; omega) r.nud1
  unfold ser; omega

end Go.Proofs.Ytkcppidmbojglaf.SM
