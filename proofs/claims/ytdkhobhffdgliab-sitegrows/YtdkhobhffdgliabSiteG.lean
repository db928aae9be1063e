/- Plain mathematics: where ticks are more, no bound is less. -/
import Derived.Test.YtdkhobhffdgliabSiteN
namespace Go.Proofs.Ytdkhobhffdgliab.SM

/-- a site whose ticks are more -/
structure Grow (s t : St) : Prop where
  fl : t.fl = s.fl
  sta : s.sta ≤ t.sta
  ste : s.ste ≤ t.ste
  sto : s.sto ≤ t.sto
  opn : s.opn ≤ t.opn
  wai : s.wai ≤ t.wai
  clo : s.clo ≤ t.clo
  nud : s.nud ≤ t.nud
  age : s.age ≤ t.age
  per : t.per = s.per
  more : s.sta + s.ste + s.sto + s.opn + s.wai + s.clo + s.nud + s.age < t.sta + t.ste + t.sto + t.opn + t.wai + t.clo + t.nud + t.age

theorem mul_more {a b c d : Int} (h1 : a ≤ b) (h2 : c ≤ d) (h3 : 0 ≤ a) (h4 : 1 ≤ c) : a * c + (b - a) ≤ b * d := by
  have e1 : b * c ≤ b * d := Int.mul_le_mul_of_nonneg_left h2 (by omega)
  have e2 : b * c = a * c + (b - a) * c := by rw [← Int.add_mul]; congr 1; omega
  have e3 : (b - a) * 1 ≤ (b - a) * c := Int.mul_le_mul_of_nonneg_left h4 (by omega)
  rw [Int.mul_one] at e3
  omega
theorem ser_grow {s t : St} (g : Grow s t) (r : Rt s) (h : Int) : ser s h + ((t.sta - s.sta) + (t.ste - s.ste) + (t.sto - s.sto) + (t.opn - s.opn) + (t.wai - s.wai) + (t.clo - s.clo) + (t.nud - s.nud)) ≤ ser t h := by
  have u := run_bd r
  have v := hol_bd h
  have a1 := mul_more (a := s.ste) (b := t.ste) (c := s.fl - 1) (d := t.fl - 1) g.ste (by rw [g.fl]; omega) (by have := r.ste1; omega) (by have := r.fl1; omega)
  have hrun : run s ≤ run t := by have := g.opn; have := g.wai; have := g.clo; unfold run; omega
  have a2 := mul_more (a := s.nud) (b := t.nud) (c := run s + hol h) (d := run t + hol h) g.nud (by omega) r.nud1 (by omega)
  have e1 : run s = s.opn + s.wai + s.clo + 4 := rfl
  have e2 : run t = t.opn + t.wai + t.clo + 4 := rfl
  unfold ser
  omega
theorem ser_grows {s t : St} (g : Grow s t) (r : Rt s) (h : Int) : ser s h ≤ ser t h := by
  have := ser_grow g r h
  have := g.sta; have := g.ste; have := g.sto; have := g.opn; have := g.wai; have := g.clo; have := g.nud
  omega
theorem bou_grows {s t : St} (g : Grow s t) (r : Rt s) (h : Int) : bou s h < bou t h := by
  have := ser_grow g r h
  have := g.sta; have := g.ste; have := g.sto; have := g.opn; have := g.wai; have := g.clo; have := g.nud; have := g.age; have := g.more; have := g.per
  unfold bou
  omega
theorem trav_grows {s t : St} (g : Grow s t) (a b : Int) : trav s a b ≤ trav t a b := by
  unfold trav
  rw [g.fl]
  split
  · omega
  · have m : s.ste * dist a b ≤ t.ste * dist a b := Int.mul_le_mul_of_nonneg_right g.ste (dist_nn a b)
    have := g.sta; have := g.sto
    omega

end Go.Proofs.Ytdkhobhffdgliab.SM
