/- Plans, which may be, in their order, and how many there are. No program is named here. -/
import Derived.Test.YtkcppidmbojglafSiteA
namespace Go.Proofs.Ytkcppidmbojglaf
namespace PM

/-- may a car serve a want that has these cars? -/
def bt (m c : Nat) : Bool := m / 2 ^ c % 2 == 1
theorem bt_high {m c n : Nat} (h : m / 2 ^ n = 0) (hc : n ≤ c) : bt m c = false := by
  unfold bt
  have h1 : m < 2 ^ n := by
    rcases Nat.lt_or_ge m (2 ^ n) with h2 | h2
    · exact h2
    · have := Nat.div_pos h2 (Nat.two_pow_pos n)
      omega
  have h2 : 2 ^ n ≤ 2 ^ c := Nat.pow_le_pow_right (by omega) hc
  rw [Nat.div_eq_of_lt (by omega)]
  rfl

/-- sums -/
def sm : Nat → (Nat → Nat) → Nat
  | 0, _ => 0
  | n + 1, f => sm n f + f n
theorem sm_congr {n : Nat} {f g : Nat → Nat} (h : ∀ i, i < n → f i = g i) : sm n f = sm n g := by
  induction n with
  | zero => rfl
  | succ n ih => rw [sm, sm, ih (fun i hi => h i (by omega)), h n (by omega)]
theorem sm_add (n : Nat) (f g : Nat → Nat) : sm n (fun i => f i + g i) = sm n f + sm n g := by
  induction n with
  | zero => rfl
  | succ n ih => simp only [sm, ih]; omega
theorem sm_mul (n k : Nat) (f : Nat → Nat) : sm n (fun i => k * f i) = k * sm n f := by
  induction n with
  | zero => rfl
  | succ n ih => simp only [sm, ih, Nat.mul_add]
theorem sm_zero {n : Nat} {f : Nat → Nat} (h : ∀ i, i < n → f i = 0) : sm n f = 0 := by
  induction n with
  | zero => rfl
  | succ n ih => rw [sm, ih (fun i hi => h i (by omega)), h n (by omega)]
theorem sm_le {n : Nat} {f g : Nat → Nat} (h : ∀ i, i < n → f i ≤ g i) : sm n f ≤ sm n g := by
  induction n with
  | zero => exact Nat.le_refl _
  | succ n ih => have := ih (fun i hi => h i (by omega)); have := h n (by omega); simp only [sm]; omega
theorem sm_shift (n : Nat) (f : Nat → Nat) : sm (n + 1) f = f 0 + sm n (fun i => f (i + 1)) := by
  induction n with
  | zero => simp [sm]
  | succ n ih => rw [sm, ih, sm]; omega
theorem sm_swap (n m : Nat) (f : Nat → Nat → Nat) : sm n (fun i => sm m (fun j => f i j)) = sm m (fun j => sm n (fun i => f i j)) := by
  induction n with
  | zero => rw [sm]; exact (sm_zero (fun _ _ => rfl)).symm
  | succ n ih => rw [sm, ih, ← sm_add]; rfl
theorem sm_one {n c : Nat} (hc : c < n) (f : Nat → Nat) : sm n f = f c + sm n (fun i => if i = c then 0 else f i) := by
  induction n with
  | zero => omega
  | succ n ih =>
    by_cases h : c = n
    · subst h
      rw [sm, sm, if_pos rfl, Nat.add_zero, Nat.add_comm]
      congr 1
      exact sm_congr (fun i hi => by rw [if_neg (by omega)])
    · rw [sm, ih (by omega), sm, if_neg (Ne.symm h)]; omega
theorem len_flat {α : Type} (f : Nat → List α) (m : Nat) : ((List.range m).flatMap f).length = sm m (fun i => (f i).length) := by
  induction m with
  | zero => rfl
  | succ m ih => rw [List.range_succ, List.flatMap_append, List.length_append, ih, sm]; simp

/-- one more at c -/
def inc (t : Nat → Nat) (c : Nat) : Nat → Nat := fun i => if i = c then t i + 1 else t i
def dec (t : Nat → Nat) (c : Nat) : Nat → Nat := fun i => if i = c then t i - 1 else t i
theorem inc_dec {t : Nat → Nat} {c d : Nat} (h : 0 < t c) : dec (inc t d) c = if d = c then t else inc (dec t c) d := by
  funext i
  by_cases hd : d = c
  · subst hd
    rw [if_pos rfl]
    unfold dec inc
    by_cases hi : i = d <;> simp [hi]
  · rw [if_neg hd]
    unfold dec inc
    by_cases hi : i = d
    · subst hi; simp [hd]
    · by_cases hj : i = c
      · subst hj; simp [hi]
      · simp [hi, hj]

/-- in how many ways the wants that don't stand yet can be put in; t has how many places each car's list has -/
def kp (n : Nat) : (Nat → Nat) → List Nat → List Bool → Nat
  | t, m :: ms, b :: st => if b then kp n t ms st else sm n (fun c => if bt m c then t c * kp n (inc t c) ms st else 0)
  | _, _, _ => 1
theorem kp_cons (n : Nat) (t : Nat → Nat) (m : Nat) (ms : List Nat) (b : Bool) (st : List Bool) : kp n t (m :: ms) (b :: st) = if b then kp n t ms st else sm n (fun c => if bt m c then t c * kp n (inc t c) ms st else 0) := rfl
theorem kp_all {n : Nat} {t : Nat → Nat} : ∀ {ms : List Nat} {st : List Bool}, (∀ b ∈ st, b = true) → kp n t ms st = 1
  | [], st, _ => by cases st <;> rfl
  | _ :: _, [], _ => rfl
  | m :: ms, b :: st, h => by
    rw [kp_cons, h b (by simp), if_pos rfl]
    exact kp_all (fun b hb => h b (by simp [hb]))
/-- one that can't be put in anywhere -/
theorem kp_none {n : Nat} : ∀ {ms : List Nat} {st : List Bool} {t : Nat → Nat} {i m : Nat}, ms[i]? = some m → st[i]? = some false → (∀ c, c < n → bt m c = true → t c = 0) → kp n t ms st = 0
  | [], _, _, _, _, h, _, _ => by simp at h
  | _ :: _, [], _, _, _, _, h, _ => by simp at h
  | m0 :: ms, b :: st, t, 0, m, h1, h2, h => by
    simp only [List.getElem?_cons_zero, Option.some.injEq] at h1 h2
    subst h1 h2
    rw [kp_cons, if_neg (by simp)]
    refine sm_zero fun c hc => ?_
    by_cases hb : bt m0 c = true
    · rw [if_pos hb, h c hc hb, Nat.zero_mul]
    · rw [if_neg hb]
  | m0 :: ms, b :: st, t, i + 1, m, h1, h2, h => by
    simp only [List.getElem?_cons_succ] at h1 h2
    rw [kp_cons]
    cases b
    · rw [if_neg (by simp)]
      refine sm_zero fun c hc => ?_
      by_cases hb : bt m0 c = true
      · rw [if_pos hb]
        by_cases ht : t c = 0
        · rw [ht, Nat.zero_mul]
        · rw [kp_none (t := inc t c) h1 h2, Nat.mul_zero]
          intro d hd hbd
          have := h d hd hbd
          unfold inc
          by_cases e : d = c
          · subst e; exact absurd this ht
          · rw [if_neg e]; exact this
      · rw [if_neg hb]
    · rw [if_pos rfl]; exact kp_none h1 h2 h
/-- the first of a car's list is one of those that are left, or there is none -/
theorem kp_first {n c0 : Nat} (hc0 : c0 < n) : ∀ {ms : List Nat} {st : List Bool} {t : Nat → Nat}, ms.length = st.length → 0 < t c0 →
    kp n t ms st = kp n (dec t c0) ms st + sm ms.length (fun i => if st[i]? = some false ∧ bt (ms[i]?.getD 0) c0 = true then kp n t ms (st.set i true) else 0)
  | [], [], _, _, _ => rfl
  | [], _ :: _, _, h, _ => by simp at h
  | _ :: _, [], _, h, _ => by simp at h
  | m :: ms, b :: st, t, hl, ht => by
    have hl' : ms.length = st.length := by simpa using hl
    rw [List.length_cons, sm_shift]
    cases b
    · simp only [List.getElem?_cons_zero, List.getElem?_cons_succ, Option.getD_some, List.set_cons_zero, List.set_cons_succ, kp_cons, if_neg (show ¬ (false = true) by simp), if_true, true_and]
      have hL : sm n (fun c => if bt m c = true then t c * kp n (inc t c) ms st else 0) =
          sm n (fun c => (if bt m c = true then t c * kp n (dec (inc t c) c0) ms st else 0) + (if bt m c = true then t c * sm ms.length (fun i => if st[i]? = some false ∧ bt (ms[i]?.getD 0) c0 = true then kp n (inc t c) ms (st.set i true) else 0) else 0)) := by
        refine sm_congr fun c _ => ?_
        by_cases hb : bt m c = true
        · simp only [if_pos hb]
          rw [← Nat.mul_add, ← kp_first hc0 hl' (by unfold inc; split <;> omega)]
        · simp only [if_neg hb]
      rw [hL, sm_add]
      have hA : sm n (fun c => if bt m c = true then t c * kp n (dec (inc t c) c0) ms st else 0) =
          sm n (fun c => if bt m c = true then dec t c0 c * kp n (inc (dec t c0) c) ms st else 0) + (if bt m c0 = true then kp n t ms st else 0) := by
        rw [sm_one hc0, sm_one (n := n) (c := c0) hc0 (fun c => if bt m c = true then dec t c0 c * kp n (inc (dec t c0) c) ms st else 0)]
        have e1 : (if bt m c0 = true then t c0 * kp n (dec (inc t c0) c0) ms st else 0) = (if bt m c0 = true then dec t c0 c0 * kp n (inc (dec t c0) c0) ms st else 0) + (if bt m c0 = true then kp n t ms st else 0) := by
          by_cases hb : bt m c0 = true
          · simp only [if_pos hb]
            rw [inc_dec ht, if_pos rfl]
            have e2 : inc (dec t c0) c0 = t := by
              funext i
              unfold inc dec
              by_cases hi : i = c0
              · subst hi; simp; omega
              · simp [hi]
            rw [e2, show dec t c0 c0 = t c0 - 1 by unfold dec; simp]
            obtain ⟨k, hk⟩ : ∃ k, t c0 = k + 1 := ⟨t c0 - 1, by omega⟩
            rw [hk, Nat.add_sub_cancel, Nat.succ_mul]
          · simp only [if_neg hb]
        have e3 : sm n (fun i => if i = c0 then 0 else if bt m i = true then t i * kp n (dec (inc t i) c0) ms st else 0) = sm n (fun i => if i = c0 then 0 else if bt m i = true then dec t c0 i * kp n (inc (dec t c0) i) ms st else 0) := by
          refine sm_congr fun i _ => ?_
          by_cases hi : i = c0
          · simp only [if_pos hi]
          · simp only [if_neg hi]
            rw [inc_dec ht, if_neg hi, show dec t c0 i = t i by unfold dec; simp [hi]]
        rw [e1, e3]; omega
      have hB : sm n (fun c => if bt m c = true then t c * sm ms.length (fun i => if st[i]? = some false ∧ bt (ms[i]?.getD 0) c0 = true then kp n (inc t c) ms (st.set i true) else 0) else 0) =
          sm ms.length (fun i => if st[i]? = some false ∧ bt (ms[i]?.getD 0) c0 = true then sm n (fun c => if bt m c = true then t c * kp n (inc t c) ms (st.set i true) else 0) else 0) := by
        have e4 : ∀ c, (if bt m c = true then t c * sm ms.length (fun i => if st[i]? = some false ∧ bt (ms[i]?.getD 0) c0 = true then kp n (inc t c) ms (st.set i true) else 0) else 0) =
            sm ms.length (fun i => if bt m c = true then (if st[i]? = some false ∧ bt (ms[i]?.getD 0) c0 = true then t c * kp n (inc t c) ms (st.set i true) else 0) else 0) := by
          intro c
          by_cases hb : bt m c = true
          · simp only [if_pos hb]
            rw [← sm_mul]
            refine sm_congr fun i _ => ?_
            by_cases hq : st[i]? = some false ∧ bt (ms[i]?.getD 0) c0 = true
            · simp only [if_pos hq]
            · simp only [if_neg hq, Nat.mul_zero]
          · simp only [if_neg hb]
            exact (sm_zero fun _ _ => rfl).symm
        rw [sm_congr (fun c _ => e4 c), sm_swap]
        refine sm_congr fun i _ => ?_
        by_cases hq : st[i]? = some false ∧ bt (ms[i]?.getD 0) c0 = true
        · simp only [if_pos hq]
        · simp only [if_neg hq, ite_self]
          exact sm_zero fun _ _ => rfl
      rw [hA, hB]; omega
    · simp only [List.getElem?_cons_zero, List.getElem?_cons_succ, List.set_cons_succ, kp_cons, if_true, Option.some.injEq, Bool.true_eq_false, false_and, if_false, Nat.zero_add]
      exact kp_first hc0 hl' ht
/-- there aren't too many -/
def up : Nat → Nat → Nat
  | _, 0 => 1
  | T, k + 1 => T * up (T + 1) k
theorem up_mono : ∀ (k : Nat) {T T' : Nat}, T ≤ T' → up T k ≤ up T' k
  | 0, _, _, _ => Nat.le_refl _
  | k + 1, _, _, h => Nat.mul_le_mul h (up_mono k (by omega))
theorem sm_inc {n c : Nat} (hc : c < n) (t : Nat → Nat) : sm n (inc t c) = sm n t + 1 := by
  rw [sm_one hc, sm_one hc t]
  have : sm n (fun i => if i = c then 0 else inc t c i) = sm n (fun i => if i = c then 0 else t i) := sm_congr fun i _ => by
    by_cases h : i = c
    · simp only [if_pos h]
    · simp only [if_neg h, inc]
  rw [this, show inc t c c = t c + 1 by unfold inc; simp]; omega
theorem kp_up {n : Nat} : ∀ (ms : List Nat) (t : Nat → Nat) (st : List Bool), (∀ b ∈ st, b = false) → st.length = ms.length → kp n t ms st ≤ up (sm n t) ms.length
  | [], _, [], _, _ => Nat.le_refl _
  | [], _, _ :: _, _, h => by simp at h
  | _ :: _, _, [], _, h => by simp at h
  | m :: ms, t, b :: st, h, hl => by
    rw [kp_cons, h b (by simp), if_neg (by simp), List.length_cons, up]
    have h1 : sm n (fun c => if bt m c = true then t c * kp n (inc t c) ms st else 0) ≤ sm n (fun c => up (sm n t + 1) ms.length * t c) := sm_le fun c hc => by
      by_cases hb : bt m c = true
      · rw [if_pos hb, Nat.mul_comm]
        refine Nat.mul_le_mul_right _ ?_
        rw [← sm_inc hc]
        exact kp_up ms _ st (fun b hb => h b (by simp [hb])) (by simpa using hl)
      · rw [if_neg hb]; exact Nat.zero_le _
    rw [sm_mul, Nat.mul_comm] at h1
    exact h1

end PM
end Go.Proofs.Ytkcppidmbojglaf
