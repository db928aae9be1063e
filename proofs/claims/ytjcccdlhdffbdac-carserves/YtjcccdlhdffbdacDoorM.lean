/- Doors, tick by tick: plain mathematics. No program is named here. -/
import Derived.Test.YtjcccdlhdffbdacSiteA
namespace Go.Proofs.Ytjcccdlhdffbdac

/-- a door -/
structure Dr where
  ph : Int
  le : Int
  ru : Int
  he : Bool

namespace DM

/-- the shut one -/
def z : Dr := ⟨0, 0, 0, false⟩
/-- a phase's ticks -/
def tk (s : St) (p : Int) : Int := if p = 1 then s.opn else if p = 2 then s.wai else if p = 3 then s.clo else 0
/-- a phase begins anew -/
def en (s : St) (d : Dr) (p : Int) : Dr := ⟨p, tk s p, d.ru, d.he⟩
/-- whether it is held -/
def hd (s : St) (d : Dr) (b : Bool) : Dr := if b = false then ⟨d.ph, d.le, d.ru, false⟩ else if d.he = false ∧ d.ru < s.nud then ⟨d.ph, d.le, d.ru + 1, true⟩ else d
/-- a tick passes -/
def ps (s : St) (d : Dr) : Dr := if 1 < d.le then ⟨d.ph, d.le - 1, d.ru, d.he⟩ else if d.ph = 1 then en s d 2 else if d.ph = 2 then en s d 3 else z
/-- a tick of a door that isn't shut, once it is told whether it is held -/
def on (s : St) (d : Dr) : Dr := if d.he = true ∧ d.ph = 2 then en s d 2 else if d.he = true ∧ d.ph = 3 then en s d 1 else ps s d
/-- a tick -/
def step (s : St) (d : Dr) (o b : Bool) : Dr := if d.ph = 0 then (if o = true then en s d 1 else d) else on s (hd s d b)

/-- a door that isn't shut and is right -/
structure Ro (s : St) (d : Dr) : Prop where
  r1 : 0 ≤ d.ru
  r2 : d.ru ≤ s.nud
  l1 : 1 ≤ d.le
  l2 : d.le ≤ tk s d.ph
  p1 : 1 ≤ d.ph
  p3 : d.ph ≤ 3
/-- a door that is right -/
def Rd (s : St) (d : Dr) : Prop := d = z ∨ Ro s d

theorem tk1 (s : St) : tk s 1 = s.opn := rfl
theorem tk2 (s : St) : tk s 2 = s.wai := rfl
theorem tk3 (s : St) : tk s 3 = s.clo := rfl
theorem tk_bd {s : St} (r : SM.Rt s) {p : Int} (h1 : 1 ≤ p) (h3 : p ≤ 3) : 1 ≤ tk s p ∧ tk s p ≤ 1000 := by
  have := r.opn1; have := r.opn2; have := r.wai1; have := r.wai2; have := r.clo1; have := r.clo2
  have h : p = 1 ∨ p = 2 ∨ p = 3 := by omega
  rcases h with rfl | rfl | rfl
  · rw [tk1]; omega
  · rw [tk2]; omega
  · rw [tk3]; omega
theorem Ro.le1000 {s : St} {d : Dr} (r : SM.Rt s) (h : Ro s d) : d.le ≤ 1000 := Int.le_trans h.l2 (tk_bd r h.p1 h.p3).2
theorem Ro.ph {s : St} {d : Dr} (h : Ro s d) : d.ph = 1 ∨ d.ph = 2 ∨ d.ph = 3 := by have := h.p1; have := h.p3; omega

theorem ro_en {s : St} (r : SM.Rt s) {d : Dr} (h1 : 0 ≤ d.ru) (h2 : d.ru ≤ s.nud) {p : Int} (p1 : 1 ≤ p) (p3 : p ≤ 3) : Ro s (en s d p) :=
  ⟨h1, h2, (tk_bd r p1 p3).1, Int.le_refl _, p1, p3⟩
theorem ro_hd {s : St} {d : Dr} (h : Ro s d) (b : Bool) : Ro s (hd s d b) := by
  have := h.r1; have := h.r2
  unfold hd; split
  · exact ⟨h.r1, h.r2, h.l1, h.l2, h.p1, h.p3⟩
  · split
    · rename_i h'
      exact ⟨by show 0 ≤ d.ru + 1; omega, by show d.ru + 1 ≤ s.nud; omega, h.l1, h.l2, h.p1, h.p3⟩
    · exact h
theorem rd_ps {s : St} (r : SM.Rt s) {d : Dr} (h : Ro s d) : Rd s (ps s d) := by
  unfold ps; split
  · rename_i h'
    have := h.l2
    exact .inr ⟨h.r1, h.r2, by show 1 ≤ d.le - 1; omega, by show d.le - 1 ≤ tk s d.ph; omega, h.p1, h.p3⟩
  · split
    · exact .inr (ro_en r h.r1 h.r2 (by omega) (by omega))
    · split
      · exact .inr (ro_en r h.r1 h.r2 (by omega) (by omega))
      · exact .inl rfl
theorem rd_on {s : St} (r : SM.Rt s) {d : Dr} (h : Ro s d) : Rd s (on s d) := by
  unfold on; split
  · exact .inr (ro_en r h.r1 h.r2 (by omega) (by omega))
  · split
    · exact .inr (ro_en r h.r1 h.r2 (by omega) (by omega))
    · exact rd_ps r h
theorem rd_step {s : St} (r : SM.Rt s) {d : Dr} (h : Rd s d) (o b : Bool) : Rd s (step s d o b) := by
  rcases h with rfl | h
  · unfold step
    rw [if_pos (show z.ph = 0 from rfl)]
    split
    · exact .inr (ro_en r (Int.le_refl 0) r.nud1 (by omega) (by omega))
    · exact .inl rfl
  · unfold step
    rw [if_neg (by have := h.p1; omega)]
    exact rd_on r (ro_hd h b)

end DM
end Go.Proofs.Ytjcccdlhdffbdac
