/- Plain facts on the nearest floor: how it is found by going out from a floor, step by step. -/
import Derived.Test.YtklekpkchpnmiaaFloorsRef
namespace Go.Proofs.Ytklekpkchpnmiaa
open Go.RowKit

theorem seg_skip {s a c : Nat} (b : Nat) (h : a ≤ c) (hno : ∀ x, a ≤ x → x < c → s.testBit x = false) : FM.seg s a b = FM.seg s c b := by
  unfold FM.seg
  apply List.filter_congr
  intro i _
  by_cases hi : a ≤ i ∧ i < c
  · rw [hno i hi.1 hi.2]; simp
  · rw [show decide (a ≤ i) = decide (c ≤ i) from decide_eq_decide.2 (by omega)]
theorem seg_app' (s a b c : Nat) (h : a ≤ b) (h2 : b ≤ c) : FM.seg s a b ++ FM.seg s b c = FM.seg s a c := by
  induction c with
  | zero => obtain rfl : b = 0 := by omega
            obtain rfl : a = 0 := by omega
            rfl
  | succ c ih =>
    by_cases hb : b = c + 1
    · subst hb; rw [FM.seg_self s (c + 1) (c + 1) (Nat.le_refl _)]; simp
    · rw [FM.seg_succ s b c, FM.seg_succ s a c, ← ih (by omega), List.append_assoc]
      rw [show decide (b ≤ c) = true by simp; omega, show decide (a ≤ c) = true by simp; omega]
theorem head_up_of {s : Nat} {f : Int} {a : Nat} (h1 : f ≤ (a : Int)) (h2 : a < 64) (hb : s.testBit a = true) (hno : ∀ x : Nat, f ≤ (x : Int) → x < a → s.testBit x = false) : (FM.upL s f).head? = some a := by
  unfold FM.upL
  rw [seg_skip 64 (show f.toNat ≤ a by omega) (fun x h3 h4 => hno x (by omega) h4), FM.seg_down_yes 64 h2 hb]; rfl
theorem head_up_none {s : Nat} {f : Int} (hno : ∀ x : Nat, f ≤ (x : Int) → x < 64 → s.testBit x = false) : (FM.upL s f).head? = none := by
  cases h : (FM.upL s f).head? with
  | none => rfl
  | some a =>
    have := up_head h
    rw [hno a this.1 this.2.1] at this
    simp at this
theorem head_down_of {s : Nat} {f : Int} {b : Nat} (h1 : (b : Int) ≤ f) (h2 : b < 64) (hb : s.testBit b = true) (hno : ∀ x : Nat, b < x → x < 64 → (x : Int) ≤ f → s.testBit x = false) : (FM.downL s f).head? = some b := by
  unfold FM.downL
  obtain ⟨m, hm⟩ : ∃ m : Nat, m = ((if f ≤ 63 then f else 63) + 1).toNat := ⟨_, rfl⟩
  rw [← hm]
  have hm1 : b + 1 ≤ m := by rw [hm]; split <;> omega
  have hm2 : ∀ x : Nat, x < m → (x : Int) ≤ f ∧ x < 64 := by
    intro x hx; rw [hm] at hx; split at hx <;> omega
  have e : FM.seg s (b + 1) m = [] := by
    rw [seg_skip (c := m) m hm1 (fun x h3 h4 => hno x (by omega) (hm2 x h4).2 (hm2 x h4).1), FM.seg_self s m m (Nat.le_refl _)]
  rw [← seg_app' s 0 (b + 1) m (Nat.zero_le _) hm1, e, List.append_nil, FM.seg_yes (Nat.zero_le _) hb, List.reverse_append]
  rfl
theorem head_down_none {s : Nat} {f : Int} (hno : ∀ x : Nat, (x : Int) ≤ f → x < 64 → s.testBit x = false) : (FM.downL s f).head? = none := by
  cases h : (FM.downL s f).head? with
  | none => rfl
  | some a =>
    have := down_head h
    rw [hno a this.1 this.2.1] at this
    simp at this

/-- a floor that is no floor counts as the last one on its side -/
def clampF (f : Int) : Nat := if f < 0 then 0 else if 63 < f then 63 else f.toNat
/-- none is nearer than k -/
def NB (s c k : Nat) : Prop := ∀ x : Nat, x < 64 → c < x + k → x < c + k → s.testBit x = false
theorem clampF_lt (f : Int) : clampF f < 64 := by unfold clampF; split; omega; split <;> omega

theorem near_low {s k : Nat} {f : Int} (hn : NB s (clampF f) k) (hk : k ≤ clampF f) (hb : s.testBit (clampF f - k) = true) : nearN s f = (clampF f - k, true) := by
  obtain ⟨c, hc⟩ : ∃ c, c = clampF f := ⟨_, rfl⟩
  rw [← hc] at hn hk hb ⊢
  unfold clampF at hc
  by_cases h1 : f < 0
  · rw [if_pos h1] at hc
    obtain rfl : k = 0 := by omega
    subst hc
    have d : (FM.downL s f).head? = none := head_down_none (fun x h2 _ => by omega)
    have u : (FM.upL s f).head? = some 0 := head_up_of (by omega) (by omega) hb (fun x _ h3 => by omega)
    unfold nearN; rw [d, u]; rfl
  · rw [if_neg h1] at hc
    by_cases h2 : 63 < f
    · rw [if_pos h2] at hc
      subst hc
      have d : (FM.downL s f).head? = some (63 - k) := head_down_of (by omega) (by omega) hb (fun x h3 h4 _ => hn x h4 (by omega) (by omega))
      have u : (FM.upL s f).head? = none := head_up_none (fun x h3 h4 => by omega)
      unfold nearN; rw [d, u]
    · rw [if_neg h2] at hc
      have d : (FM.downL s f).head? = some (c - k) := head_down_of (by omega) (by omega) hb (fun x h3 h4 h5 => hn x h4 (by omega) (by omega))
      unfold nearN; rw [d]
      cases u : (FM.upL s f).head? with
      | none => rfl
      | some a =>
        have ha := up_head u
        have : ¬ (a : Int) - f < f - ((c - k : Nat) : Int) := by
          intro h
          have := hn a ha.2.1 (by omega) (by omega)
          rw [ha.2.2] at this; cases this
        simp only
        rw [if_neg this]
theorem near_high {s k : Nat} {f : Int} (hn : NB s (clampF f) k) (hl : ¬ (k ≤ clampF f ∧ s.testBit (clampF f - k) = true)) (hk : clampF f + k < 64) (hb : s.testBit (clampF f + k) = true) : nearN s f = (clampF f + k, true) := by
  obtain ⟨c, hc⟩ : ∃ c, c = clampF f := ⟨_, rfl⟩
  rw [← hc] at hn hl hk hb ⊢
  have hk0 : k ≠ 0 := by
    rintro rfl
    exact hl ⟨Nat.zero_le _, by simpa using hb⟩
  unfold clampF at hc
  by_cases h1 : f < 0
  · rw [if_pos h1] at hc
    subst hc
    have d : (FM.downL s f).head? = none := head_down_none (fun x h2 _ => by omega)
    have u : (FM.upL s f).head? = some (0 + k) := head_up_of (by omega) (by omega) hb (fun x _ h3 => hn x (by omega) (by omega) (by omega))
    unfold nearN; rw [d, u]; rfl
  · rw [if_neg h1] at hc
    by_cases h2 : 63 < f
    · rw [if_pos h2] at hc
      omega
    · rw [if_neg h2] at hc
      have u : (FM.upL s f).head? = some (c + k) := head_up_of (by omega) (by omega) hb (fun x h3 h4 => hn x (by omega) (by omega) (by omega))
      unfold nearN; rw [u]
      cases d : (FM.downL s f).head? with
      | none => rfl
      | some b =>
        have hbd := down_head d
        have hne : ¬ (k ≤ c ∧ b = c - k) := by
          rintro ⟨h3, rfl⟩
          exact hl ⟨h3, hbd.2.2⟩
        have hge : ¬ (c < b + k) := by
          intro h
          have := hn b hbd.2.1 h (by omega)
          rw [hbd.2.2] at this; cases this
        simp only
        rw [if_pos (by omega)]
theorem near_none {s : Nat} {f : Int} (hn : NB s (clampF f) 64) : nearN s f = (0, false) := by
  have hc := clampF_lt f
  have hno : ∀ x : Nat, x < 64 → s.testBit x = false := fun x hx => hn x hx (by omega) (by omega)
  have d : (FM.downL s f).head? = none := head_down_none (fun x _ h => hno x h)
  have u : (FM.upL s f).head? = none := head_up_none (fun x _ h => hno x h)
  unfold nearN; rw [d, u]; rfl
theorem nb_zero (s c : Nat) : NB s c 0 := fun x _ h1 h2 => by omega
theorem nb_succ {s c k : Nat} (h : NB s c k) (h1 : ¬ (k ≤ c ∧ s.testBit (c - k) = true)) (h2 : ¬ (c + k < 64 ∧ s.testBit (c + k) = true)) : NB s c (k + 1) := by
  intro x hx g1 g2
  by_cases e1 : c < x + k ∧ x < c + k
  · exact h x hx e1.1 e1.2
  · by_cases e2 : x = c + k
    · subst e2
      cases hb : s.testBit (c + k)
      · rfl
      · exact absurd ⟨hx, hb⟩ h2
    · have e3 : k ≤ c ∧ x = c - k := by omega
      cases hb : s.testBit x
      · rfl
      · exact absurd ⟨e3.1, by rw [← e3.2]; exact hb⟩ h1
/-- the document's answer: -1 where there is none -/
def nearI (s : Nat) (f : Int) : Int := if (nearN s f).2 = true then (((nearN s f).1 : Nat) : Int) else -1

end Go.Proofs.Ytklekpkchpnmiaa
