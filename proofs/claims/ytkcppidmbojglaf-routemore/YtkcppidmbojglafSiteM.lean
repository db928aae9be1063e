/- Plain mathematics of sites: what is right, and how long things take. No program is named here. -/
import Derived.Test.YtkcppidmbojglafNum
import Derived.Test.YtkcppidmbojglafSiteA
namespace Go.Proofs.Ytkcppidmbojglaf

namespace SM

/-- how far -/
def dist (a b : Int) : Int := if a < b then b - a else a - b
/-- travel -/
def trav (s : St) (a b : Int) : Int := if a < 0 ∨ b < 0 ∨ s.fl ≤ a ∨ s.fl ≤ b ∨ a = b then 0 else s.sta + s.ste * dist a b + s.sto
/-- a hold, within its bounds -/
def hol (h : Int) : Int := if h < 0 then 0 else if 1000000 < h then 1000000 else h
def run (s : St) : Int := s.opn + s.wai + s.clo + 4
def ser (s : St) (h : Int) : Int := s.sta + s.ste * (s.fl - 1) + s.sto + run s + s.nud * (run s + hol h)
def bou (s : St) (h : Int) : Int := s.age + 130 * ser s h + s.per

theorem hol_bd (h : Int) : 0 ≤ hol h ∧ hol h ≤ 1000000 := by
  unfold hol; split
  · omega
  · split <;> omega
theorem run_bd {s : St} (r : Rt s) : 7 ≤ run s ∧ run s ≤ 3004 := by
  have := r.opn1; have := r.opn2; have := r.wai1; have := r.wai2; have := r.clo1; have := r.clo2
  unfold run; omega
theorem mul_bd {a b A B : Int} (h1 : 0 ≤ a) (h2 : a ≤ A) (h3 : 0 ≤ b) (h4 : b ≤ B) : 0 ≤ a * b ∧ a * b ≤ A * B :=
  ⟨Int.mul_nonneg h1 h3, Int.mul_le_mul h2 h4 h3 (by omega)⟩
theorem step_bd {s : St} (r : Rt s) {d : Int} (h1 : 0 ≤ d) (h2 : d ≤ 63) : 0 ≤ s.ste * d ∧ s.ste * d ≤ 63000 := by
  have := r.ste1; have := r.ste2
  have := mul_bd (a := s.ste) (b := d) (A := 1000) (B := 63) (by omega) (by omega) h1 h2
  omega
theorem nudge_bd {s : St} (r : Rt s) (h : Int) : 0 ≤ s.nud * (run s + hol h) ∧ s.nud * (run s + hol h) ≤ 10030040 := by
  have := r.nud1; have := r.nud2
  have := run_bd r; have := hol_bd h
  have := mul_bd (a := s.nud) (b := run s + hol h) (A := 10) (B := 1003004) (by omega) (by omega) (by omega) (by omega)
  omega
theorem ser_bd {s : St} (r : Rt s) (h : Int) : 8 ≤ ser s h ∧ ser s h ≤ 10098044 := by
  have a := step_bd r (d := s.fl - 1) (by have := r.fl1; omega) (by have := r.fl2; omega)
  have b := nudge_bd r h
  have c := run_bd r
  have := r.sta1; have := r.sta2; have := r.sto1; have := r.sto2
  have e := mul_bd (a := 1) (b := s.fl - 1) (A := s.ste) (B := s.fl - 1) (by omega) r.ste1 (by have := r.fl1; omega) (by omega)
  have := r.fl1
  unfold ser; omega
theorem bou_bd {s : St} (r : Rt s) (h : Int) : 0 ≤ bou s h ∧ bou s h ≤ 1400000000 := by
  have := ser_bd r h
  have := r.age1; have := r.age2; have := r.per1; have := r.per2
  unfold bou; omega
theorem dist_bd {s : St} (r : Rt s) {a b : Int} (h1 : 0 ≤ a) (h2 : 0 ≤ b) (h3 : a < s.fl) (h4 : b < s.fl) : 0 ≤ dist a b ∧ dist a b ≤ 63 := by
  have := r.fl2
  unfold dist; split <;> omega
theorem trav_out {s : St} {a b : Int} (h : a < 0 ∨ b < 0 ∨ s.fl ≤ a ∨ s.fl ≤ b ∨ a = b) : trav s a b = 0 := by unfold trav; rw [if_pos h]
theorem trav_in {s : St} {a b : Int} (h1 : 0 ≤ a) (h2 : 0 ≤ b) (h3 : a < s.fl) (h4 : b < s.fl) (h5 : a ≠ b) : trav s a b = s.sta + s.ste * dist a b + s.sto := by
  unfold trav; rw [if_neg (by omega)]
theorem trav_bd {s : St} (r : Rt s) (a b : Int) : 0 ≤ trav s a b ∧ trav s a b ≤ 65000 := by
  unfold trav; split
  · omega
  · rename_i h
    have d := dist_bd r (a := a) (b := b) (by omega) (by omega) (by omega) (by omega)
    have := step_bd r d.1 d.2
    have := r.sta1; have := r.sta2; have := r.sto1; have := r.sto2
    omega

/-- the sums, within the limit -/
theorem sumL3 {a b c : Int} (h1 : 0 ≤ a) (h2 : 0 ≤ b) (h3 : 0 ≤ c) (h : a + b + c ≤ 1099511627776) : NumM.sumL [a, b, c] = a + b + c := by
  have e : ([a, b, c] : List Int) = (([] ++ [a]) ++ [b]) ++ [c] := rfl
  rw [e, NumM.sumL_snoc, NumM.sumL_snoc, NumM.sumL_snoc]
  have z : NumM.sumL [] = 0 := rfl
  rw [z, NumM.cl_in (a := 0) (by omega) (by omega), NumM.cl_in (a := a) (by omega) (by omega), Int.zero_add, NumM.cl_in (a := a) (by omega) (by omega),
    NumM.cl_in (a := a) (by omega) (by omega), NumM.cl_in (a := b) (by omega) (by omega), NumM.cl_in (a := a + b) (by omega) (by omega), NumM.cl_in (a := a + b) (by omega) (by omega),
    NumM.cl_in (a := c) (by omega) (by omega), NumM.cl_in (by omega) (by omega)]
theorem sumL4 {a b c d : Int} (h1 : 0 ≤ a) (h2 : 0 ≤ b) (h3 : 0 ≤ c) (h4 : 0 ≤ d) (h : a + b + c + d ≤ 1099511627776) : NumM.sumL [a, b, c, d] = a + b + c + d := by
  have e : ([a, b, c, d] : List Int) = [a, b, c] ++ [d] := rfl
  rw [e, NumM.sumL_snoc, sumL3 h1 h2 h3 (by omega), NumM.cl_in (a := a + b + c) (by omega) (by omega), NumM.cl_in (a := d) (by omega) (by omega), NumM.cl_in (by omega) (by omega)]
theorem mulC {a b A B : Int} (h1 : 0 ≤ a) (h2 : a ≤ A) (h3 : 0 ≤ b) (h4 : b ≤ B) (hA : A ≤ 1099511627776) (hB : B ≤ 1099511627776) (h : A * B ≤ 1099511627776) : NumM.cl (NumM.cl a * NumM.cl b) = a * b := by
  have := mul_bd h1 h2 h3 h4
  rw [NumM.cl_in (a := a) (by omega) (by omega), NumM.cl_in (a := b) (by omega) (by omega), NumM.cl_in (by omega) (by omega)]
theorem addC {a b : Int} (h1 : 0 ≤ a) (h2 : 0 ≤ b) (h : a + b ≤ 1099511627776) : NumM.cl (NumM.cl a + NumM.cl b) = a + b := by
  rw [NumM.cl_in (a := a) (by omega) (by omega), NumM.cl_in (a := b) (by omega) (by omega), NumM.cl_in (by omega) (by omega)]

theorem travel_sum {s : St} (r : Rt s) {a b : Int} (h1 : 0 ≤ a) (h2 : 0 ≤ b) (h3 : a < s.fl) (h4 : b < s.fl) (h5 : a ≠ b) :
    NumM.sumL [s.sta, NumM.cl (NumM.cl s.ste * NumM.cl (dist a b)), s.sto] = trav s a b := by
  have d := dist_bd r h1 h2 h3 h4
  have := step_bd r d.1 d.2
  have := r.ste1; have := r.ste2; have := r.sta1; have := r.sta2; have := r.sto1; have := r.sto2
  rw [mulC (A := 1000) (B := 63) (by omega) (by omega) d.1 d.2 (by omega) (by omega) (by omega), sumL3 (by omega) (by omega) (by omega) (by omega), trav_in h1 h2 h3 h4 h5]
theorem run_sum {s : St} (r : Rt s) : NumM.sumL [s.opn, s.wai, s.clo, 4] = run s := by
  have := r.opn1; have := r.opn2; have := r.wai1; have := r.wai2; have := r.clo1; have := r.clo2
  rw [sumL4 (by omega) (by omega) (by omega) (by omega) (by omega)]; rfl
theorem again_mul {s : St} (r : Rt s) (h : Int) : NumM.cl (NumM.cl s.nud * NumM.cl (NumM.cl (NumM.cl (run s) + NumM.cl (hol h)))) = s.nud * (run s + hol h) := by
  have := run_bd r; have := hol_bd h; have := r.nud1; have := r.nud2
  rw [addC (by omega) (by omega) (by omega), mulC (A := 10) (B := 1003004) (by omega) (by omega) (by omega) (by omega) (by omega) (by omega) (by omega)]
theorem again_mul' {s : St} (r : Rt s) (h : Int) : NumM.cl (NumM.cl s.nud * NumM.cl (NumM.cl (NumM.cl (run s) + NumM.cl (hol h)))) = s.nud * (run s + hol h) := again_mul r h
theorem trav_all {s : St} (r : Rt s) : trav s 0 (s.fl - 1) = s.sta + s.ste * (s.fl - 1) + s.sto := by
  have := r.fl1
  rw [trav_in (by omega) (by omega) (by omega) (by omega) (by omega)]
  unfold dist; rw [if_pos (by omega), Int.sub_zero]
theorem ser_sum {s : St} (r : Rt s) (h : Int) : NumM.sumL [trav s 0 (s.fl - 1), run s, s.nud * (run s + hol h)] = ser s h := by
  have := trav_bd r 0 (s.fl - 1); have := run_bd r; have := nudge_bd r h
  rw [sumL3 (by omega) (by omega) (by omega) (by omega), trav_all r]; rfl
theorem bou_sum {s : St} (r : Rt s) (h : Int) : NumM.sumL [s.age, NumM.cl (NumM.cl 130 * NumM.cl (ser s h)), s.per] = bou s h := by
  have := ser_bd r h
  have := r.age1; have := r.age2; have := r.per1; have := r.per2
  rw [mulC (A := 130) (B := 10098044) (by omega) (by omega) (by omega) (by omega) (by omega) (by omega) (by omega), sumL3 (by omega) (by omega) (by omega) (by omega)]; rfl

end SM
end Go.Proofs.Ytkcppidmbojglaf
