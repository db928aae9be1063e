/- A door shuts in the end: plain mathematics. What is left of its ticks falls with every tick, whoever stands in it. -/
import Derived.Test.YtpclpeeglmabhabDoorM
namespace Go.Proofs.Ytpclpeeglmabhab.DM

/-- how many ticks a door has, if nobody stands in it -/
def bas (s : St) (d : Dr) : Int := if d.ph = 1 then d.le + s.wai + s.clo else if d.ph = 2 then d.le + s.clo else if d.ph = 3 then d.le else 0
/-- what a hold costs -/
def cst (s : St) (k : Int) : Int := s.opn + s.wai + s.clo + 4 + k
/-- what is left of a door's ticks, at most -/
def phi (s : St) (k : Int) (d : Dr) (left : Int) : Int := if d.ph = 0 then 0 else bas s d + (s.nud - d.ru) * cst s k + (if d.he = true then left else 0)

/-- what holds of a door, and of the run of ticks that somebody stands in it -/
structure Iv (s : St) (k : Int) (d : Dr) (left gap : Int) : Prop where
  rd : Rd s d
  l0 : 0 ≤ left
  lk : left ≤ k
  g0 : 0 ≤ gap
  g4 : gap ≤ 4
  lg : 0 < left → 1 ≤ gap
  hg : d.he = true → 1 ≤ gap
  h3 : d.he = true → d.ph ≠ 3
  h2 : d.he = true → d.ph = 2 → d.le = s.wai

theorem iv_pick {s : St} {k : Int} {d : Dr} (h : Iv s k d 0 0) {left gap : Int} (h1 : 0 ≤ left) (h2 : left ≤ k) (h3 : 1 ≤ gap) (h4 : gap ≤ 4) : Iv s k d left gap ∧ phi s k d left = phi s k d 0 := by
  have he : d.he = false := by
    cases hh : d.he
    · rfl
    · have := h.hg hh; omega
  have no : ∀ {q : Prop}, d.he = true → q := fun e => by rw [he] at e; cases e
  refine ⟨⟨h.rd, h1, h2, by omega, h4, fun _ => h3, no, no, no⟩, ?_⟩
  unfold phi; rw [he]; simp
theorem prod_step {a m : Int} : (a - 1) * m = a * m - m := by rw [Int.sub_mul, Int.one_mul]

theorem bas_ps {s : St} {d : Dr} (h : Ro s d) : bas s (ps s d) = bas s d - 1 := by
  have hl := h.l1
  unfold ps
  by_cases h1 : 1 < d.le
  · rw [if_pos h1]
    rcases h.ph with e | e | e <;> simp [bas, e] <;> omega
  · rw [if_neg h1]
    have e1 : d.le = 1 := by omega
    rcases h.ph with e | e | e <;> simp [bas, e, en, tk, z, e1] <;> omega
theorem ru_ps {s : St} {d : Dr} (h : Ro s d) (hd : d.ph ≠ 3 ∨ 1 < d.le) : (ps s d).ru = d.ru ∧ (ps s d).he = d.he := by
  unfold ps
  by_cases h1 : 1 < d.le
  · rw [if_pos h1]; exact ⟨rfl, rfl⟩
  · rw [if_neg h1]
    rcases h.ph with e | e | e
    · rw [if_pos e]; exact ⟨rfl, rfl⟩
    · rw [if_neg (by omega), if_pos e]; exact ⟨rfl, rfl⟩
    · omega
theorem ps_z {s : St} {d : Dr} (hd : ¬ (d.ph ≠ 3 ∨ 1 < d.le)) : ps s d = z := by
  have h3 : d.ph = 3 := by omega
  have h1 : ¬ 1 < d.le := by omega
  unfold ps
  rw [if_neg h1, if_neg (by omega), if_neg (by omega)]
theorem cst_pos {s : St} (R : SM.Rt s) {k : Int} (hk : 0 ≤ k) : 7 ≤ cst s k := by
  have := R.opn1; have := R.wai1; have := R.clo1
  unfold cst; omega
theorem prod_nn {s : St} (R : SM.Rt s) {d : Dr} (h : Ro s d) {k : Int} (hk : 0 ≤ k) : 0 ≤ (s.nud - d.ru) * cst s k :=
  Int.mul_nonneg (by have := h.r2; omega) (by have := cst_pos R hk; omega)
theorem bas_pos {s : St} (R : SM.Rt s) {d : Dr} (h : Ro s d) : 1 ≤ bas s d := by
  have := R.wai1; have := R.clo1; have := h.l1
  rcases h.ph with e | e | e <;> simp [bas, e] <;> omega
theorem bas_le {s : St} (R : SM.Rt s) {d : Dr} (h : Ro s d) : bas s d ≤ s.opn + s.wai + s.clo := by
  have := R.opn1; have := R.wai1; have := R.clo1; have hl := h.l2
  rcases h.ph with e | e | e <;> simp [bas, e] <;> rw [e] at hl <;> simp [tk] at hl <;> omega

theorem phi_ro {s : St} {d : Dr} (h : Ro s d) (k left : Int) : phi s k d left = bas s d + (s.nud - d.ru) * cst s k + (if d.he = true then left else 0) := by
  unfold phi; rw [if_neg (by have := h.p1; omega)]
theorem phi_z (s : St) (k left : Int) : phi s k z left = 0 := rfl
theorem phi_nn {s : St} (R : SM.Rt s) {d : Dr} (h : Rd s d) {k left : Int} (hk : 0 ≤ k) (hl : 0 ≤ left) : 0 ≤ phi s k d left := by
  rcases h with rfl | h
  · rw [phi_z]; omega
  · rw [phi_ro h]
    have := bas_pos R h; have := prod_nn R h hk
    split <;> omega
/-- what is left falls by one at least where the tick just passes -/
theorem phi_ps {s : St} (R : SM.Rt s) {d : Dr} (h : Ro s d) {k : Int} (hk : 0 ≤ k) {left left' : Int} (h0 : 0 ≤ left) (hle : d.he = true → left' ≤ left) :
    phi s k (ps s d) left' + 1 ≤ phi s k d left := by
  have hb := bas_ps h
  have hp := prod_nn R h hk
  have hq := bas_pos R h
  rw [phi_ro h]
  by_cases hd : d.ph ≠ 3 ∨ 1 < d.le
  · rcases rd_ps R h with e | e
    · rw [e, phi_z]; split <;> omega
    · rw [phi_ro e, (ru_ps h hd).1, (ru_ps h hd).2, hb]
      split
      · rename_i hh; have := hle hh; omega
      · omega
  · rw [ps_z hd, phi_z]; split <;> omega

/-- a tick: somebody stands in the door while the run lasts; then comes the gap -/
theorem iv_step {s : St} (R : SM.Rt s) {k : Int} (hk : 0 ≤ k) {d : Dr} {left gap : Int} (I : Iv s k d left gap) (hp : d.ph ≠ 0) (hin : 0 < left) :
    Iv s k (step s d false true) (left - 1) gap ∧ phi s k (step s d false true) (left - 1) + 1 ≤ phi s k d left := by
  have h : Ro s d := by
    rcases I.rd with rfl | h
    · exact absurd rfl hp
    · exact h
  have hg := I.lg hin
  have hlk := I.lk
  have es : step s d false true = on s (hd s d true) := by unfold step; rw [if_neg hp]
  have hrd := rd_step R I.rd false true
  rw [es] at hrd ⊢
  have hc := cst_pos R hk
  cases hh : d.he
  · by_cases hn : d.ru < s.nud
    · -- a new hold
      have eh : hd s d true = ⟨d.ph, d.le, d.ru + 1, true⟩ := by unfold hd; rw [if_neg (by simp), if_pos ⟨hh, hn⟩]
      rw [eh] at hrd ⊢
      have key : ∃ p l, on s ⟨d.ph, d.le, d.ru + 1, true⟩ = ⟨p, l, d.ru + 1, true⟩ ∧ p ≠ 3 ∧ (p = 2 → l = s.wai) ∧ p ≠ 0 := by
        rcases h.ph with e | e | e
        · have hl := h.l1
          by_cases h1 : 1 < d.le
          · exact ⟨1, d.le - 1, by simp [on, e, ps, h1], by omega, by omega, by omega⟩
          · exact ⟨2, s.wai, by simp [on, e, ps, h1, en, tk], by omega, fun _ => rfl, by omega⟩
        · exact ⟨2, s.wai, by simp [on, e, en, tk], by omega, fun _ => rfl, by omega⟩
        · exact ⟨1, s.opn, by simp [on, e, en, tk], by omega, by omega, by omega⟩
      obtain ⟨p, l, ek, k3, k2, k0⟩ := key
      rw [ek] at hrd ⊢
      refine ⟨⟨hrd, by omega, by omega, I.g0, I.g4, fun _ => hg, fun _ => hg, fun _ => k3, fun _ => k2⟩, ?_⟩
      have hro : Ro s ⟨p, l, d.ru + 1, true⟩ := by
        rcases hrd with e | e
        · have : p = 0 := congrArg Dr.ph e
          exact absurd this k0
        · exact e
      rw [phi_ro hro, phi_ro h, hh]
      have b1 := bas_le R hro
      have b2 := bas_pos R h
      have e1 : (s.nud - (d.ru + 1)) * cst s k = (s.nud - d.ru) * cst s k - cst s k := by
        rw [show s.nud - (d.ru + 1) = (s.nud - d.ru) - 1 by omega, prod_step]
      show bas s ⟨p, l, d.ru + 1, true⟩ + (s.nud - (d.ru + 1)) * cst s k + (if (true : Bool) = true then left - 1 else 0) + 1 ≤ _
      rw [e1]
      have ec : cst s k = s.opn + s.wai + s.clo + 4 + k := rfl
      simp only [if_true, Bool.false_eq_true, if_false]
      omega
    · -- no more holds
      have eh : hd s d true = d := by unfold hd; rw [if_neg (by simp), if_neg (by simp [hh, hn])]
      have eo : on s d = ps s d := by unfold on; simp [hh]
      rw [eh, eo] at hrd ⊢
      have hhe : (ps s d).he = false := by
        by_cases hd' : d.ph ≠ 3 ∨ 1 < d.le
        · rw [(ru_ps h hd').2, hh]
        · rw [ps_z hd']; rfl
      have no : ∀ {q : Prop}, (ps s d).he = true → q := fun e => by rw [hhe] at e; cases e
      exact ⟨⟨hrd, by omega, by omega, I.g0, I.g4, fun _ => hg, no, no, no⟩, phi_ps R h hk (by omega) (fun _ => by omega)⟩
  · -- it is held on
    have eh : hd s d true = d := by unfold hd; rw [if_neg (by simp), if_neg (by simp [hh])]
    rw [eh] at hrd ⊢
    have hn3 := I.h3 hh
    rcases h.ph with e | e | e
    · have eo : on s d = ps s d := by unfold on; rw [if_neg (by omega), if_neg (by omega)]
      rw [eo] at hrd ⊢
      have hr := ru_ps h (.inl hn3)
      have hps : (ps s d).ph ≠ 3 ∧ ((ps s d).ph = 2 → (ps s d).le = s.wai) := by
        unfold ps
        by_cases h1 : 1 < d.le
        · rw [if_pos h1]; simp [e]
        · rw [if_neg h1, if_pos e]; simp [en, tk]
      exact ⟨⟨hrd, by omega, by omega, I.g0, I.g4, fun _ => hg, fun _ => hg, fun _ => hps.1, fun _ => hps.2⟩, phi_ps R h hk (by omega) (fun _ => by omega)⟩
    · have eo : on s d = en s d 2 := by unfold on; rw [if_pos ⟨hh, e⟩]
      rw [eo] at hrd ⊢
      have ee : en s d 2 = d := by
        have hw := I.h2 hh e
        cases d
        simp only at e hw
        subst e hw
        rfl
      rw [ee] at hrd ⊢
      refine ⟨⟨hrd, by omega, by omega, I.g0, I.g4, fun _ => hg, fun _ => hg, I.h3, I.h2⟩, ?_⟩
      rw [phi_ro h, phi_ro h, hh]
      simp only [if_true]
      omega
    · exact absurd e hn3

theorem iv_gap {s : St} (R : SM.Rt s) {k : Int} (hk : 0 ≤ k) {d : Dr} {gap gap' : Int} (I : Iv s k d 0 gap) (hp : d.ph ≠ 0) (h1 : 0 ≤ gap') (h2 : gap' ≤ 4) :
    Iv s k (step s d false false) 0 gap' ∧ phi s k (step s d false false) 0 + 1 ≤ phi s k d 0 := by
  have h : Ro s d := by
    rcases I.rd with rfl | h
    · exact absurd rfl hp
    · exact h
  have es : step s d false false = ps s ⟨d.ph, d.le, d.ru, false⟩ := by
    unfold step; rw [if_neg hp]
    simp [hd, on]
  have hrd := rd_step R I.rd false false
  rw [es] at hrd ⊢
  have h' : Ro s ⟨d.ph, d.le, d.ru, false⟩ := ⟨h.r1, h.r2, h.l1, h.l2, h.p1, h.p3⟩
  have hhe : (ps s ⟨d.ph, d.le, d.ru, false⟩).he = false := by
    by_cases hd' : d.ph ≠ 3 ∨ 1 < d.le
    · rw [(ru_ps h' hd').2]
    · rw [ps_z (d := ⟨d.ph, d.le, d.ru, false⟩) hd']; rfl
  have no : ∀ {q : Prop}, (ps s ⟨d.ph, d.le, d.ru, false⟩).he = true → q := fun e => by rw [hhe] at e; cases e
  refine ⟨⟨hrd, by omega, by omega, h1, h2, fun hx => by omega, no, no, no⟩, ?_⟩
  have := phi_ps R h' hk (left := 0) (left' := 0) (by omega) (fun _ => by omega)
  have e : phi s k ⟨d.ph, d.le, d.ru, false⟩ 0 = phi s k d 0 := by
    rw [phi_ro h', phi_ro h]
    simp [bas]
  omega

end Go.Proofs.Ytpclpeeglmabhab.DM
