/- A service, tick by tick: plain mathematics. No program is named here. -/
import Derived.Test.YtjcccdlhdffbdacCarM
namespace Go.Proofs.Ytjcccdlhdffbdac
namespace CM

/-- a car that stands, with its door so -/
def dc (t : Int) (d : Dr) : Cr := ⟨t, t, 0, d, false⟩
/-- how many ticks there are ahead of the door's -/
def ah (s : St) (f t : Int) : Int := if f = t then 0 else SM.trav s f t + 1
/-- a service: behind n ticks, with 'op' the tick in which the door was open first -/
def Sv (s : St) (f t n op : Int) (c : Cr) : Prop :=
  (f ≠ t ∧ n = 0 ∧ op = -1 ∧ c = atF f) ∨
  (f ≠ t ∧ 1 ≤ n ∧ n ≤ SM.trav s f t ∧ op = -1 ∧ c = ⟨f, t, SM.trav s f t - n + 1, DM.z, false⟩) ∨
  (n = ah s f t ∧ op = -1 ∧ c = atF t) ∨
  (∃ x, 0 ≤ x ∧ x < s.opn ∧ n = ah s f t + 1 + x ∧ op = -1 ∧ c = dc t ⟨1, s.opn - x, 0, false⟩) ∨
  (∃ y, 0 ≤ y ∧ y < s.wai ∧ n = ah s f t + 1 + s.opn + y ∧ op = ah s f t + s.opn ∧ c = dc t ⟨2, s.wai - y, 0, false⟩) ∨
  (∃ z, 0 ≤ z ∧ z < s.clo ∧ n = ah s f t + 1 + s.opn + s.wai + z ∧ op = ah s f t + s.opn ∧ c = dc t ⟨3, s.clo - z, 0, false⟩)

theorem ah_same {s : St} {f : Int} : ah s f f = 0 := if_pos rfl
theorem ah_other {s : St} {f t : Int} (h : f ≠ t) : ah s f t = SM.trav s f t + 1 := if_neg h
theorem ah_ge {s : St} (R : SM.Rt s) (f t : Int) : 0 ≤ ah s f t := by
  unfold ah; split
  · omega
  · have := (SM.trav_bd R f t).1; omega
theorem sv_start (s : St) (f t : Int) : Sv s f t 0 (-1) (atF f) := by
  by_cases h : f = t
  · subst h; exact .inr (.inr (.inl ⟨ah_same.symm, rfl, rfl⟩))
  · exact .inl ⟨h, rfl, rfl, rfl⟩
theorem sv_right {s : St} (R : SM.Rt s) {f t : Int} (f1 : 0 ≤ f) (f2 : f < s.fl) (t1 : 0 ≤ t) (t2 : t < s.fl) {n op : Int} {c : Cr} (h : Sv s f t n op c) : Rc s c := by
  have hd : ∀ d, DM.Rd s d → Rc s (dc t d) := fun d hd => ⟨R, hd, t1, t2, t1, t2, fun _ => rfl, fun h => absurd rfl h⟩
  have n1 := R.nud1
  rcases h with ⟨_, _, _, rfl⟩ | ⟨h1, h2, h3, _, rfl⟩ | ⟨_, _, rfl⟩ | ⟨x, h1, h2, _, _, rfl⟩ | ⟨x, h1, h2, _, _, rfl⟩ | ⟨x, h1, h2, _, _, rfl⟩
  · exact rc_at R f1 f2
  · exact ⟨R, .inl rfl, f1, f2, t1, t2, fun h => absurd h (by show ¬ SM.trav s f t - n + 1 = 0; omega), fun _ => ⟨fun e => h1 e.symm, by show 1 ≤ SM.trav s f t - n + 1; omega, by show SM.trav s f t - n + 1 ≤ SM.trav s f t; omega, rfl⟩⟩
  · exact rc_at R t1 t2
  · exact hd _ (.inr ⟨Int.le_refl 0, n1, by show 1 ≤ s.opn - x; omega, by show s.opn - x ≤ s.opn; omega, by simp, by simp⟩)
  · exact hd _ (.inr ⟨Int.le_refl 0, n1, by show 1 ≤ s.wai - x; omega, by show s.wai - x ≤ s.wai; omega, by simp, by simp⟩)
  · exact hd _ (.inr ⟨Int.le_refl 0, n1, by show 1 ≤ s.clo - x; omega, by show s.clo - x ≤ s.clo; omega, by simp, by simp⟩)
theorem sv_bd {s : St} (R : SM.Rt s) {f t : Int} {n op : Int} {c : Cr} (h : Sv s f t n op c) : 0 ≤ n ∧ n ≤ ah s f t + s.opn + s.wai + s.clo ∧ (op = -1 ∨ 0 ≤ op) ∧ op ≤ n := by
  have o1 := R.opn1; have w1 := R.wai1; have k1 := R.clo1; have a1 := ah_ge R f t
  rcases h with ⟨h0, _, _, _⟩ | ⟨h0, h2, h3, _, _⟩ | ⟨_, _, _⟩ | ⟨x, h1, h2, _, _, _⟩ | ⟨x, h1, h2, _, _, _⟩ | ⟨x, h1, h2, _, _, _⟩
  · omega
  · have := ah_other (s := s) h0; omega
  · omega
  · omega
  · omega
  · omega

theorem door_free (s : St) (t : Int) {p l : Int} (hp : p ≠ 0) (o : Bool) (g : Int) : step s (dc t ⟨p, l, 0, false⟩) o g false = dc t (DM.ps s ⟨p, l, 0, false⟩) := by
  unfold step
  rw [if_neg (by simp [dc]), if_pos (show (dc t ⟨p, l, 0, false⟩).d.ph ≠ 0 from hp)]
  show dc t (DM.step s ⟨p, l, 0, false⟩ o false) = _
  unfold DM.step
  rw [if_neg hp]
  simp [DM.hd, DM.on]
theorem opens_at (s : St) (t g : Int) : step s (atF t) true g false = dc t ⟨1, s.opn, 0, false⟩ := rfl
theorem goes_at {s : St} {f t : Int} (t1 : 0 ≤ t) (t2 : t < s.fl) (hne : f ≠ t) : step s (atF f) false t false = ⟨f, t, SM.trav s f t, DM.z, false⟩ := by
  unfold step
  rw [if_neg (by simp [atF]), if_neg (by simp [atF, DM.z]), if_neg (by simp [atF]), if_neg (by simp), if_pos ⟨fun e => hne (by simpa [atF] using e.symm), by unfold has; exact decide_eq_true ⟨t1, t2⟩⟩]
  rfl
theorem rides_at {s : St} {f t j : Int} (hj : j ≠ 0) (o : Bool) (g : Int) (b : Bool) : step s ⟨f, t, j, DM.z, false⟩ o g b = if j = 1 then atF t else ⟨f, t, j - 1, DM.z, false⟩ := by
  unfold step
  rw [if_pos hj]
  rfl

/-- what a tick of a service does -/
theorem sv_step {s : St} (R : SM.Rt s) {f t : Int} (t1 : 0 ≤ t) (t2 : t < s.fl) (f1 : 0 ≤ f) (f2 : f < s.fl) {n op : Int} {c : Cr} (h : Sv s f t n op c) :
    (c.fl ≠ t ∧ op = -1 ∧ ∃ y, step s c false t false = y ∧ y.d.ph ≠ 2 ∧ Sv s f t (n + 1) (-1) y) ∨
    (c.fl = t ∧ c.ti = 0 ∧ op = -1 ∧ ∃ y, step s c true t false = y ∧ y.d.ph ≠ 2 ∧ Sv s f t (n + 1) (-1) y) ∨
    (c.fl = t ∧ c.ti = 0 ∧ op = -1 ∧ ∃ y, step s c true t false = y ∧ y.d.ph = 2 ∧ y.fl = t ∧ y.ti = 0 ∧ Sv s f t (n + 1) n y) ∨
    (c.fl = t ∧ c.ti = 0 ∧ 0 ≤ op ∧ ∃ y, step s c false t false = y ∧ y.d.ph ≠ 0 ∧ Sv s f t (n + 1) op y) ∨
    (c.fl = t ∧ c.ti = 0 ∧ 0 ≤ op ∧ step s c false t false = atF t ∧ op = ah s f t + s.opn ∧ n = ah s f t + s.opn + s.wai + s.clo) := by
  have o1 := R.opn1; have w1 := R.wai1; have k1 := R.clo1; have a1 := ah_ge R f t
  rcases h with ⟨h0, rfl, rfl, rfl⟩ | ⟨h1, h2, h3, rfl, rfl⟩ | ⟨rfl, rfl, rfl⟩ | ⟨x, h1, h2, rfl, rfl, rfl⟩ | ⟨x, h1, h2, rfl, rfl, rfl⟩ | ⟨x, h1, h2, rfl, rfl, rfl⟩
  · refine .inl ⟨h0, rfl, _, goes_at t1 t2 h0, by simp [DM.z], .inr (.inl ⟨h0, by omega, ?_, rfl, ?_⟩)⟩
    · have := trav_ge R f1 t1 f2 t2 h0; omega
    · congr 1; omega
  · refine .inl ⟨h1, rfl, _, rides_at (by omega) false t false, ?_, ?_⟩
    · split <;> simp [atF, DM.z]
    · by_cases hj : SM.trav s f t - n + 1 = 1
      · rw [if_pos hj]
        exact .inr (.inr (.inl ⟨by rw [ah_other h1]; omega, rfl, rfl⟩))
      · rw [if_neg hj]
        exact .inr (.inl ⟨h1, by omega, by omega, rfl, by congr 1; omega⟩)
  · refine .inr (.inl ⟨rfl, rfl, rfl, _, opens_at s t t, by simp [dc], .inr (.inr (.inr (.inl ⟨0, by omega, by omega, by omega, rfl, by rw [Int.sub_zero]⟩)))⟩)
  · by_cases hx : 1 < s.opn - x
    · refine .inr (.inl ⟨rfl, rfl, rfl, _, door_free s t (by simp) true t, ?_, ?_⟩)
      · unfold DM.ps; rw [if_pos hx]; simp [dc]
      · refine .inr (.inr (.inr (.inl ⟨x + 1, by omega, by omega, by omega, rfl, ?_⟩)))
        unfold DM.ps; rw [if_pos hx]
        show dc t ⟨1, s.opn - x - 1, 0, false⟩ = _
        rw [show s.opn - x - 1 = s.opn - (x + 1) by omega]
    · have e : DM.ps s ⟨1, s.opn - x, 0, false⟩ = ⟨2, s.wai, 0, false⟩ := by unfold DM.ps; rw [if_neg hx, if_pos rfl]; rfl
      refine .inr (.inr (.inl ⟨rfl, rfl, rfl, _, door_free s t (by simp) true t, ?_, rfl, rfl, ?_⟩))
      · rw [e]; rfl
      · rw [e]
        exact .inr (.inr (.inr (.inr (.inl ⟨0, by omega, by omega, by omega, by omega, by rw [Int.sub_zero]⟩))))
  · by_cases hx : 1 < s.wai - x
    · refine .inr (.inr (.inr (.inl ⟨rfl, rfl, by omega, _, door_free s t (by simp) false t, ?_, ?_⟩)))
      · unfold DM.ps; rw [if_pos hx]; simp [dc]
      · refine .inr (.inr (.inr (.inr (.inl ⟨x + 1, by omega, by omega, by omega, rfl, ?_⟩))))
        unfold DM.ps; rw [if_pos hx]
        show dc t ⟨2, s.wai - x - 1, 0, false⟩ = _
        rw [show s.wai - x - 1 = s.wai - (x + 1) by omega]
    · have e : DM.ps s ⟨2, s.wai - x, 0, false⟩ = ⟨3, s.clo, 0, false⟩ := by unfold DM.ps; rw [if_neg hx, if_neg (by simp), if_pos rfl]; rfl
      refine .inr (.inr (.inr (.inl ⟨rfl, rfl, by omega, _, door_free s t (by simp) false t, ?_, ?_⟩)))
      · rw [e]; simp [dc]
      · rw [e]
        exact .inr (.inr (.inr (.inr (.inr ⟨0, by omega, by omega, by omega, rfl, by rw [Int.sub_zero]⟩))))
  · by_cases hx : 1 < s.clo - x
    · refine .inr (.inr (.inr (.inl ⟨rfl, rfl, by omega, _, door_free s t (by simp) false t, ?_, ?_⟩)))
      · unfold DM.ps; rw [if_pos hx]; simp [dc]
      · refine .inr (.inr (.inr (.inr (.inr ⟨x + 1, by omega, by omega, by omega, rfl, ?_⟩))))
        unfold DM.ps; rw [if_pos hx]
        show dc t ⟨3, s.clo - x - 1, 0, false⟩ = _
        rw [show s.clo - x - 1 = s.clo - (x + 1) by omega]
    · have e : DM.ps s ⟨3, s.clo - x, 0, false⟩ = DM.z := by unfold DM.ps; rw [if_neg hx, if_neg (by simp), if_neg (by simp)]
      refine .inr (.inr (.inr (.inr ⟨rfl, rfl, by omega, ?_, rfl, by omega⟩)))
      rw [door_free s t (by simp) false t, e]
      rfl

/-- a service's ticks are fewer than the document tells -/
theorem sv_end {s : St} (R : SM.Rt s) {f t : Int} (f1 : 0 ≤ f) (f2 : f < s.fl) (t1 : 0 ≤ t) (t2 : t < s.fl) : ah s f t + s.opn + s.wai + s.clo < SM.ser s 0 := by
  have hn := SM.nudge_bd R 0
  have hT : SM.trav s f t ≤ s.sta + s.ste * (s.fl - 1) + s.sto := by
    have b := SM.step_bd R (d := s.fl - 1) (by omega) (by have := R.fl2; omega)
    have := R.sta1; have := R.sto1
    unfold SM.trav
    split
    · omega
    · have d : SM.dist f t ≤ s.fl - 1 := by unfold SM.dist; split <;> omega
      have d0 : 0 ≤ SM.dist f t := by unfold SM.dist; split <;> omega
      have m := SM.mul_bd (a := s.ste) (b := SM.dist f t) (A := s.ste) (B := s.fl - 1) (by have := R.ste1; omega) (Int.le_refl _) d0 d
      omega
  have hA : ah s f t ≤ SM.trav s f t + 1 := by
    unfold ah; split
    · have := (SM.trav_bd R f t).1; omega
    · omega
  unfold SM.ser SM.run at *
  omega

end CM
end Go.Proofs.Ytjcccdlhdffbdac
