/- Cars, tick by tick: plain mathematics. No program is named here. -/
import Derived.Test.YtjcccdlhdffbdacDoorM
import Derived.Test.YtjcccdlhdffbdacSiteM
namespace Go.Proofs.Ytjcccdlhdffbdac

/-- a car -/
structure Cr where
  fl : Int
  tg : Int
  ti : Int
  d : Dr
  fa : Bool

namespace CM

/-- a car that stands at a floor -/
def atF (f : Int) : Cr := ⟨f, f, 0, DM.z, false⟩
/-- a tick of a car that moves -/
def ride (c : Cr) : Cr := if c.ti = 1 then ⟨c.tg, c.tg, 0, c.d, c.fa⟩ else ⟨c.fl, c.tg, c.ti - 1, c.d, c.fa⟩
/-- whether a site has a floor -/
def has (s : St) (f : Int) : Bool := decide (0 ≤ f ∧ f < s.fl)
/-- a tick -/
def step (s : St) (c : Cr) (o : Bool) (g : Int) (b : Bool) : Cr :=
  if c.ti ≠ 0 then ride c
  else if c.d.ph ≠ 0 then ⟨c.fl, c.tg, c.ti, DM.step s c.d o b, c.fa⟩
  else if c.fa = true then c
  else if o = true then ⟨c.fl, c.tg, c.ti, DM.step s c.d true b, c.fa⟩
  else if g ≠ c.fl ∧ has s g = true then ⟨c.fl, g, SM.trav s c.fl g, c.d, c.fa⟩
  else c
/-- idle -/
def idle (c : Cr) : Bool := decide (c.ti = 0 ∧ c.d.ph = 0)

/-- a right car in a right site -/
structure Rc (s : St) (c : Cr) : Prop where
  rs : SM.Rt s
  rd : DM.Rd s c.d
  f1 : 0 ≤ c.fl
  f2 : c.fl < s.fl
  t1 : 0 ≤ c.tg
  t2 : c.tg < s.fl
  st : c.ti = 0 → c.tg = c.fl
  mo : c.ti ≠ 0 → c.tg ≠ c.fl ∧ 1 ≤ c.ti ∧ c.ti ≤ SM.trav s c.fl c.tg ∧ c.d = DM.z

/-- what a tick may be, of two right cars -/
def Sf (a b : Cr) : Prop :=
  if b.ti ≠ 0 then (if a.ti ≠ 0 then a.fl = b.fl ∧ a.tg = b.tg ∧ a.ti = b.ti + 1 else a.d.ph = 0 ∧ a.fl = b.fl)
  else if a.ti ≠ 0 then a.ti = 1 ∧ a.tg = b.fl ∧ b.d.ph = 0 else a.fl = b.fl

theorem rd0 {s : St} {d : Dr} (h : DM.Rd s d) (hp : d.ph = 0) : d = DM.z := by
  rcases h with rfl | h
  · rfl
  · have := h.p1; omega
theorem trav_ge {s : St} (r : SM.Rt s) {a b : Int} (h1 : 0 ≤ a) (h2 : 0 ≤ b) (h3 : a < s.fl) (h4 : b < s.fl) (h5 : a ≠ b) : 1 ≤ SM.trav s a b := by
  rw [SM.trav_in h1 h2 h3 h4 h5]
  have d : 1 ≤ SM.dist a b := by unfold SM.dist; split <;> omega
  have := SM.mul_bd (a := 1) (b := SM.dist a b) (A := s.ste) (B := SM.dist a b) (by omega) r.ste1 (by omega) (Int.le_refl _)
  have := r.sta1; have := r.sto1
  omega
theorem Rc.ti_bd {s : St} {c : Cr} (h : Rc s c) : 0 ≤ c.ti ∧ c.ti ≤ 65000 := by
  by_cases h0 : c.ti = 0
  · omega
  · obtain ⟨_, h1, h2, _⟩ := h.mo h0
    have := (SM.trav_bd h.rs c.fl c.tg).2
    omega
theorem rc_fault {s : St} {c : Cr} (h : Rc s c) (f : Bool) : Rc s ⟨c.fl, c.tg, c.ti, c.d, f⟩ := ⟨h.rs, h.rd, h.f1, h.f2, h.t1, h.t2, h.st, h.mo⟩
theorem rc_at {s : St} (r : SM.Rt s) {f : Int} (h1 : 0 ≤ f) (h2 : f < s.fl) : Rc s (atF f) := ⟨r, .inl rfl, h1, h2, h1, h2, fun _ => rfl, fun h => absurd rfl h⟩
theorem rc_door {s : St} {c : Cr} (h : Rc s c) (h0 : c.ti = 0) {d : Dr} (hd : DM.Rd s d) : Rc s ⟨c.fl, c.tg, c.ti, d, c.fa⟩ := ⟨h.rs, hd, h.f1, h.f2, h.t1, h.t2, h.st, fun h' => absurd h0 h'⟩
theorem rc_step {s : St} {c : Cr} (h : Rc s c) (o : Bool) (g : Int) (b : Bool) : Rc s (step s c o g b) := by
  unfold step
  split
  · rename_i hm
    obtain ⟨m1, m2, m3, m4⟩ := h.mo hm
    unfold ride
    split
    · exact ⟨h.rs, h.rd, h.t1, h.t2, h.t1, h.t2, fun _ => rfl, fun h' => absurd rfl h'⟩
    · exact ⟨h.rs, h.rd, h.f1, h.f2, h.t1, h.t2, fun h' => absurd h' (by show ¬ (c.ti - 1 = 0); omega), fun _ => ⟨m1, by show 1 ≤ c.ti - 1; omega, by show c.ti - 1 ≤ SM.trav s c.fl c.tg; omega, m4⟩⟩
  · rename_i hm
    have h0 : c.ti = 0 := by omega
    split
    · exact rc_door h h0 (DM.rd_step h.rs h.rd _ _)
    · split
      · exact h
      · split
        · exact rc_door h h0 (DM.rd_step h.rs h.rd _ _)
        · split
          · rename_i h1 _ _ h2
            have hg : 0 ≤ g ∧ g < s.fl := by have := h2.2; simpa [has] using this
            have hge := trav_ge h.rs h.f1 hg.1 h.f2 hg.2 (fun e => h2.1 e.symm)
            have hp : c.d.ph = 0 := by omega
            exact ⟨h.rs, h.rd, h.f1, h.f2, hg.1, hg.2, fun h' => absurd h' (by show ¬ (SM.trav s c.fl g = 0); omega), fun _ => ⟨h2.1, hge, Int.le_refl _, rd0 h.rd hp⟩⟩
          · exact h
/-- each step is safe -/
theorem sf_step {s : St} {c : Cr} (h : Rc s c) (o : Bool) (g : Int) (b : Bool) : Sf c (step s c o g b) := by
  unfold step
  split
  · rename_i hm
    obtain ⟨m1, m2, m3, m4⟩ := h.mo hm
    unfold ride
    split
    · rename_i h1
      unfold Sf
      rw [if_neg (by simp), if_pos hm]
      exact ⟨h1, rfl, by show c.d.ph = 0; rw [m4]; rfl⟩
    · unfold Sf
      rw [if_pos (by show c.ti - 1 ≠ 0; omega), if_pos hm]
      exact ⟨rfl, rfl, by show c.ti = c.ti - 1 + 1; omega⟩
  · rename_i hm
    have key : ∀ x : Cr, x.ti = c.ti → x.fl = c.fl → Sf c x := fun x h1 h2 => by
      unfold Sf
      rw [if_neg (by rw [h1]; exact hm), if_neg hm, h2]
    split
    · exact key _ rfl rfl
    · rename_i hp
      split
      · exact key _ rfl rfl
      · split
        · exact key _ rfl rfl
        · split
          · rename_i h2
            have hg : 0 ≤ g ∧ g < s.fl := by have := h2.2; simpa [has] using this
            have hge := trav_ge h.rs h.f1 hg.1 h.f2 hg.2 (fun e => h2.1 e.symm)
            unfold Sf
            rw [if_pos (by show SM.trav s c.fl g ≠ 0; omega), if_neg hm]
            exact ⟨by omega, rfl⟩
          · exact key _ rfl rfl
/-- a car that isn't idle goes on just so, whatever it is told -/
theorem busy {s : St} {c : Cr} (hi : idle c = false) (o o' : Bool) (g g' : Int) (b : Bool) : step s c o g b = step s c o' g' b := by
  unfold idle at hi
  rw [decide_eq_false_iff_not] at hi
  unfold step
  by_cases hm : c.ti ≠ 0
  · rw [if_pos hm, if_pos hm]
  · have hp : c.d.ph ≠ 0 := by omega
    rw [if_neg hm, if_pos hp, if_neg hm, if_pos hp]
    unfold DM.step
    rw [if_neg hp, if_neg hp]
theorem busy_fault {s : St} {c : Cr} (hi : idle c = false) (f : Bool) (o : Bool) (g : Int) (b : Bool) :
    step s ⟨c.fl, c.tg, c.ti, c.d, f⟩ o g b = ⟨(step s c o g b).fl, (step s c o g b).tg, (step s c o g b).ti, (step s c o g b).d, f⟩ ∧ (step s c o g b).fa = c.fa := by
  unfold idle at hi
  rw [decide_eq_false_iff_not] at hi
  unfold step
  by_cases hm : c.ti ≠ 0
  · rw [if_pos hm, if_pos hm]
    unfold ride
    by_cases h1 : c.ti = 1
    · simp [h1]
    · simp [h1]
  · have hp : c.d.ph ≠ 0 := by omega
    rw [if_neg hm, if_pos hp, if_neg hm, if_pos hp]
    exact ⟨rfl, rfl⟩
theorem fault_idle {s : St} {c : Cr} (hi : idle c = true) (hf : c.fa = true) (o : Bool) (g : Int) (b : Bool) : step s c o g b = c := by
  unfold idle at hi
  rw [decide_eq_true_eq] at hi
  unfold step
  rw [if_neg (by omega), if_neg (by omega), if_pos hf]

end CM
end Go.Proofs.Ytjcccdlhdffbdac
