/- Several texts in one, each with its own head. -/
import Derived.Test.YtjpkekmccbpclajPk0
import Derived.Laws.OwnMore
import Derived.Laws.AppendOwnNone
import Derived.Deep.AppendLies
import Derived.OwnWalk
/- Plans, which may be, in their order, and how many there are. No program is named here. -/
namespace Go.Proofs.Ytjpkekmccbpclaj
namespace PM

/-- may a car serve a want that has these cars? -/
def bt (m c : Nat) : Bool := m / 2 ^ c % 2 == 1
theorem bt_high {m c n : Nat} (h : m / 2 ^ n = 0) (hc : n ≤ c) : bt m c = false := by
  unfold bt
  have h1 : m < 2 ^ n := by
    rcases Nat.lt_or_ge m (2 ^ n) with h2 | h2
    · exact h2
    · have := Nat.div_pos h2 (Nat.two_pow_pos n)
      omega
  have h2 : 2 ^ n ≤ 2 ^ c := Nat.pow_le_pow_right (by omega) hc
  rw [Nat.div_eq_of_lt (by omega)]
  rfl

/-- sums -/
def sm : Nat → (Nat → Nat) → Nat
  | 0, _ => 0
  | n + 1, f => sm n f + f n
theorem sm_congr {n : Nat} {f g : Nat → Nat} (h : ∀ i, i < n → f i = g i) : sm n f = sm n g := by
  induction n with
  | zero => rfl
  | succ n ih => rw [sm, sm, ih (fun i hi => h i (by omega)), h n (by omega)]
theorem sm_add (n : Nat) (f g : Nat → Nat) : sm n (fun i => f i + g i) = sm n f + sm n g := by
  induction n with
  | zero => rfl
  | succ n ih => simp only [sm, ih]; omega
theorem sm_mul (n k : Nat) (f : Nat → Nat) : sm n (fun i => k * f i) = k * sm n f := by
  induction n with
  | zero => rfl
  | succ n ih => simp only [sm, ih, Nat.mul_add]
theorem sm_zero {n : Nat} {f : Nat → Nat} (h : ∀ i, i < n → f i = 0) : sm n f = 0 := by
  induction n with
  | zero => rfl
  | succ n ih => rw [sm, ih (fun i hi => h i (by omega)), h n (by omega)]
theorem sm_le {n : Nat} {f g : Nat → Nat} (h : ∀ i, i < n → f i ≤ g i) : sm n f ≤ sm n g := by
  induction n with
  | zero => exact Nat.le_refl _
  | succ n ih => have := ih (fun i hi => h i (by omega)); have := h n (by omega); simp only [sm]; omega
theorem sm_shift (n : Nat) (f : Nat → Nat) : sm (n + 1) f = f 0 + sm n (fun i => f (i + 1)) := by
  induction n with
  | zero => simp [sm]
  | succ n ih => rw [sm, ih, sm]; omega
theorem sm_swap (n m : Nat) (f : Nat → Nat → Nat) : sm n (fun i => sm m (fun j => f i j)) = sm m (fun j => sm n (fun i => f i j)) := by
  induction n with
  | zero => rw [sm]; exact (sm_zero (fun _ _ => rfl)).symm
  | succ n ih => rw [sm, ih, ← sm_add]; rfl
theorem sm_one {n c : Nat} (hc : c < n) (f : Nat → Nat) : sm n f = f c + sm n (fun i => if i = c then 0 else f i) := by
  induction n with
  | zero => omega
  | succ n ih =>
    by_cases h : c = n
    · subst h
      rw [sm, sm, if_pos rfl, Nat.add_zero, Nat.add_comm]
      congr 1
      exact sm_congr (fun i hi => by rw [if_neg (by omega)])
    · rw [sm, ih (by omega), sm, if_neg (Ne.symm h)]; omega
theorem len_flat {α : Type} (f : Nat → List α) (m : Nat) : ((List.range m).flatMap f).length = sm m (fun i => (f i).length) := by
  induction m with
  | zero => rfl
  | succ m ih => rw [List.range_succ, List.flatMap_append, List.length_append, ih, sm]; simp

/-- one more at c -/
def inc (t : Nat → Nat) (c : Nat) : Nat → Nat := fun i => if i = c then t i + 1 else t i
def dec (t : Nat → Nat) (c : Nat) : Nat → Nat := fun i => if i = c then t i - 1 else t i
theorem inc_dec {t : Nat → Nat} {c d : Nat} (h : 0 < t c) : dec (inc t d) c = if d = c then t else inc (dec t c) d := by
  funext i
  by_cases hd : d = c
  · subst hd
    rw [if_pos rfl]
    unfold dec inc
    by_cases hi : i = d <;> simp [hi]
  · rw [if_neg hd]
    unfold dec inc
    by_cases hi : i = d
    · subst hi; simp [hd]
    · by_cases hj : i = c
      · subst hj; simp [hi]
      · simp [hi, hj]

/-- in how many ways the wants that don't stand yet can be put in; t has how many places each car's list has -/
def kp (n : Nat) : (Nat → Nat) → List Nat → List Bool → Nat
  | t, m :: ms, b :: st => if b then kp n t ms st else sm n (fun c => if bt m c then t c * kp n (inc t c) ms st else 0)
  | _, _, _ => 1
theorem kp_cons (n : Nat) (t : Nat → Nat) (m : Nat) (ms : List Nat) (b : Bool) (st : List Bool) : kp n t (m :: ms) (b :: st) = if b then kp n t ms st else sm n (fun c => if bt m c then t c * kp n (inc t c) ms st else 0) := rfl
theorem kp_all {n : Nat} {t : Nat → Nat} : ∀ {ms : List Nat} {st : List Bool}, (∀ b ∈ st, b = true) → kp n t ms st = 1
  | [], st, _ => by cases st <;> rfl
  | _ :: _, [], _ => rfl
  | m :: ms, b :: st, h => by
    rw [kp_cons, h b (by simp), if_pos rfl]
    exact kp_all (fun b hb => h b (by simp [hb]))
/-- one that can't be put in anywhere -/
theorem kp_none {n : Nat} : ∀ {ms : List Nat} {st : List Bool} {t : Nat → Nat} {i m : Nat}, ms[i]? = some m → st[i]? = some false → (∀ c, c < n → bt m c = true → t c = 0) → kp n t ms st = 0
  | [], _, _, _, _, h, _, _ => by simp at h
  | _ :: _, [], _, _, _, _, h, _ => by simp at h
  | m0 :: ms, b :: st, t, 0, m, h1, h2, h => by
    simp only [List.getElem?_cons_zero, Option.some.injEq] at h1 h2
    subst h1 h2
    rw [kp_cons, if_neg (by simp)]
    refine sm_zero fun c hc => ?_
    by_cases hb : bt m0 c = true
    · rw [if_pos hb, h c hc hb, Nat.zero_mul]
    · rw [if_neg hb]
  | m0 :: ms, b :: st, t, i + 1, m, h1, h2, h => by
    simp only [List.getElem?_cons_succ] at h1 h2
    rw [kp_cons]
    cases b
    · rw [if_neg (by simp)]
      refine sm_zero fun c hc => ?_
      by_cases hb : bt m0 c = true
      · rw [if_pos hb]
        by_cases ht : t c = 0
        · rw [ht, Nat.zero_mul]
        · rw [kp_none (t := inc t c) h1 h2, Nat.mul_zero]
          intro d hd hbd
          have := h d hd hbd
          unfold inc
          by_cases e : d = c
          · subst e; exact absurd this ht
          · rw [if_neg e]; exact this
      · rw [if_neg hb]
    · rw [if_pos rfl]; exact kp_none h1 h2 h
/-- the first of a car's list is one of those that are left, or there is none -/
theorem kp_first {n c0 : Nat} (hc0 : c0 < n) : ∀ {ms : List Nat} {st : List Bool} {t : Nat → Nat}, ms.length = st.length → 0 < t c0 →
    kp n t ms st = kp n (dec t c0) ms st + sm ms.length (fun i => if st[i]? = some false ∧ bt (ms[i]?.getD 0) c0 = true then kp n t ms (st.set i true) else 0)
  | [], [], _, _, _ => rfl
  | [], _ :: _, _, h, _ => by simp at h
  | _ :: _, [], _, h, _ => by simp at h
  | m :: ms, b :: st, t, hl, ht => by
    have hl' : ms.length = st.length := by simpa using hl
    rw [List.length_cons, sm_shift]
    cases b
    · simp only [List.getElem?_cons_zero, List.getElem?_cons_succ, Option.getD_some, List.set_cons_zero, List.set_cons_succ, kp_cons, if_neg (show ¬ (false = true) by simp), if_true, true_and]
      have hL : sm n (fun c => if bt m c = true then t c * kp n (inc t c) ms st else 0) =
          sm n (fun c => (if bt m c = true then t c * kp n (dec (inc t c) c0) ms st else 0) + (if bt m c = true then t c * sm ms.length (fun i => if st[i]? = some false ∧ bt (ms[i]?.getD 0) c0 = true then kp n (inc t c) ms (st.set i true) else 0) else 0)) := by
        refine sm_congr fun c _ => ?_
        by_cases hb : bt m c = true
        · simp only [if_pos hb]
          rw [← Nat.mul_add, ← kp_first hc0 hl' (by unfold inc; split <;> omega)]
        · simp only [if_neg hb]
      rw [hL, sm_add]
      have hA : sm n (fun c => if bt m c = true then t c * kp n (dec (inc t c) c0) ms st else 0) =
          sm n (fun c => if bt m c = true then dec t c0 c * kp n (inc (dec t c0) c) ms st else 0) + (if bt m c0 = true then kp n t ms st else 0) := by
        rw [sm_one hc0, sm_one (n := n) (c := c0) hc0 (fun c => if bt m c = true then dec t c0 c * kp n (inc (dec t c0) c) ms st else 0)]
        have e1 : (if bt m c0 = true then t c0 * kp n (dec (inc t c0) c0) ms st else 0) = (if bt m c0 = true then dec t c0 c0 * kp n (inc (dec t c0) c0) ms st else 0) + (if bt m c0 = true then kp n t ms st else 0) := by
          by_cases hb : bt m c0 = true
          · simp only [if_pos hb]
            rw [inc_dec ht, if_pos rfl]
            have e2 : inc (dec t c0) c0 = t := by
              funext i
              unfold inc dec
              by_cases hi : i = c0
              · subst hi; simp; omega
              · simp [hi]
            rw [e2, show dec t c0 c0 = t c0 - 1 by unfold dec; simp]
            obtain ⟨k, hk⟩ : ∃ k, t c0 = k + 1 := ⟨t c0 - 1, by omega⟩
            rw [hk, Nat.add_sub_cancel, Nat.succ_mul]
          · simp only [if_neg hb]
        have e3 : sm n (fun i => if i = c0 then 0 else if bt m i = true then t i * kp n (dec (inc t i) c0) ms st else 0) = sm n (fun i => if i = c0 then 0 else if bt m i = true then dec t c0 i * kp n (inc (dec t c0) i) ms st else 0) := by
          refine sm_congr fun i _ => ?_
          by_cases hi : i = c0
          · simp only [if_pos hi]
          · simp only [if_neg hi]
            rw [inc_dec ht, if_neg hi, show dec t c0 i = t i by unfold dec; simp [hi]]
        rw [e1, e3]; omega
      have hB : sm n (fun c => if bt m c = true then t c * sm ms.length (fun i => if st[i]? = some false ∧ bt (ms[i]?.getD 0) c0 = true then kp n (inc t c) ms (st.set i true) else 0) else 0) =
          sm ms.length (fun i => if st[i]? = some false ∧ bt (ms[i]?.getD 0) c0 = true then sm n (fun c => if bt m c = true then t c * kp n (inc t c) ms (st.set i true) else 0) else 0) := by
        have e4 : ∀ c, (if bt m c = true then t c * sm ms.length (fun i => if st[i]? = some false ∧ bt (ms[i]?.getD 0) c0 = true then kp n (inc t c) ms (st.set i true) else 0) else 0) =
            sm ms.length (fun i => if bt m c = true then (if st[i]? = some false ∧ bt (ms[i]?.getD 0) c0 = true then t c * kp n (inc t c) ms (st.set i true) else 0) else 0) := by
          intro c
          by_cases hb : bt m c = true
          · simp only [if_pos hb]
            rw [← sm_mul]
            refine sm_congr fun i _ => ?_
            by_cases hq : st[i]? = some false ∧ bt (ms[i]?.getD 0) c0 = true
            · simp only [if_pos hq]
            · simp only [if_neg hq, Nat.mul_zero]
          · simp only [if_neg hb]
            exact (sm_zero fun _ _ => rfl).symm
        rw [sm_congr (fun c _ => e4 c), sm_swap]
        refine sm_congr fun i _ => ?_
        by_cases hq : st[i]? = some false ∧ bt (ms[i]?.getD 0) c0 = true
        · simp only [if_pos hq]
        · simp only [if_neg hq, ite_self]
          exact sm_zero fun _ _ => rfl
      rw [hA, hB]; omega
    · simp only [List.getElem?_cons_zero, List.getElem?_cons_succ, List.set_cons_succ, kp_cons, if_true, Option.some.injEq, Bool.true_eq_false, false_and, if_false, Nat.zero_add]
      exact kp_first hc0 hl' ht
/-- there aren't too many -/
def up : Nat → Nat → Nat
  | _, 0 => 1
  | T, k + 1 => T * up (T + 1) k
theorem up_mono : ∀ (k : Nat) {T T' : Nat}, T ≤ T' → up T k ≤ up T' k
  | 0, _, _, _ => Nat.le_refl _
  | k + 1, _, _, h => Nat.mul_le_mul h (up_mono k (by omega))
theorem sm_inc {n c : Nat} (hc : c < n) (t : Nat → Nat) : sm n (inc t c) = sm n t + 1 := by
  rw [sm_one hc, sm_one hc t]
  have : sm n (fun i => if i = c then 0 else inc t c i) = sm n (fun i => if i = c then 0 else t i) := sm_congr fun i _ => by
    by_cases h : i = c
    · simp only [if_pos h]
    · simp only [if_neg h, inc]
  rw [this, show inc t c c = t c + 1 by unfold inc; simp]; omega
theorem kp_up {n : Nat} : ∀ (ms : List Nat) (t : Nat → Nat) (st : List Bool), (∀ b ∈ st, b = false) → st.length = ms.length → kp n t ms st ≤ up (sm n t) ms.length
  | [], _, [], _, _ => Nat.le_refl _
  | [], _, _ :: _, _, h => by simp at h
  | _ :: _, _, [], _, h => by simp at h
  | m :: ms, t, b :: st, h, hl => by
    rw [kp_cons, h b (by simp), if_neg (by simp), List.length_cons, up]
    have h1 : sm n (fun c => if bt m c = true then t c * kp n (inc t c) ms st else 0) ≤ sm n (fun c => up (sm n t + 1) ms.length * t c) := sm_le fun c hc => by
      by_cases hb : bt m c = true
      · rw [if_pos hb, Nat.mul_comm]
        refine Nat.mul_le_mul_right _ ?_
        rw [← sm_inc hc]
        exact kp_up ms _ st (fun b hb => h b (by simp [hb])) (by simpa using hl)
      · rw [if_neg hb]; exact Nat.zero_le _
    rw [sm_mul, Nat.mul_comm] at h1
    exact h1

end PM
end Go.Proofs.Ytjpkekmccbpclaj

/- Which plans may be, told in two ways, and all of them in their order. No program is named here. -/
namespace Go.Proofs.Ytjpkekmccbpclaj
namespace PM

/-- may this number stand in the list of the car c? -/
def okx (ms : List Nat) (c : Nat) (x : Int) : Bool := decide (0 ≤ x) && decide (x < ms.length) && bt (ms[x.toNat]?.getD 0) c
theorem okx_iff {ms : List Nat} {c : Nat} {x : Int} : okx ms c x = true ↔ 0 ≤ x ∧ x < ms.length ∧ bt (ms[x.toNat]?.getD 0) c = true := by
  unfold okx; simp [and_assoc]
/-- 1, if the want stands -/
def nb (st : List Bool) (w : Nat) : Nat := if st[w]? = some true then 1 else 0
theorem nb_set {st : List Bool} {w v : Nat} (hv : v < st.length) (h : st[v]? = some false) : nb (st.set v true) w = nb st w + if w = v then 1 else 0 := by
  unfold nb
  by_cases e : w = v
  · subst e; rw [List.getElem?_set_self hv, h]; simp
  · rw [List.getElem?_set_ne (Ne.symm e)]; simp [e]
theorem nb_true {st : List Bool} {w : Nat} (h : st[w]? = some true) : nb st w = 1 := by unfold nb; rw [if_pos h]
theorem nb_false {st : List Bool} {w : Nat} (h : st[w]? = some false) : nb st w = 0 := by unfold nb; rw [h]; simp
theorem nb_rep (n w : Nat) : nb (List.replicate n false) w = 0 := by
  unfold nb
  rw [List.getElem?_replicate]
  split <;> simp

/-- the program's way: which wants stand -/
def run1 (ms : List Nat) (c : Nat) : List Bool → List Int → Option (List Bool)
  | st, [] => some st
  | st, x :: l => if okx ms c x = true ∧ st[x.toNat]? = some false then run1 ms c (st.set x.toNat true) l else none
def runs (ms : List Nat) : Nat → List Bool → List (List Int) → Option (List Bool)
  | _, st, [] => some st
  | c, st, l :: p => (run1 ms c st l).bind fun st' => runs ms (c + 1) st' p
def feas (ms : List Nat) (p : List (List Int)) : Bool := ((runs ms 0 (List.replicate ms.length false) p).map (fun st => st.all id)).getD false
/-- the document's way: how often each stands -/
def cnt1 (ms : List Nat) (c : Nat) : List Nat → List Int → Option (List Nat)
  | ct, [] => some ct
  | ct, x :: l => if okx ms c x = true then cnt1 ms c (ct.set x.toNat (ct[x.toNat]?.getD 0 + 1)) l else none
def cnts (ms : List Nat) : Nat → List Nat → List (List Int) → Option (List Nat)
  | _, ct, [] => some ct
  | c, ct, l :: p => (cnt1 ms c ct l).bind fun ct' => cnts ms (c + 1) ct' p
def rfeas (ms : List Nat) (p : List (List Int)) : Bool := ((cnts ms 0 (List.replicate ms.length 0) p).map (fun ct => ct.all (· == 1))).getD false
/-- what both say -/
structure Fz (ms : List Nat) (p : List (List Int)) : Prop where
  ok : ∀ (c : Nat) l, p[c]? = some l → ∀ x ∈ l, okx ms c x = true
  once : ∀ w, w < ms.length → p.flatten.count (w : Int) = 1

theorem cast_nat {x : Int} {w : Nat} (hx : 0 ≤ x) : (x = (w : Int)) ↔ w = x.toNat := by omega
theorem run1_some {ms : List Nat} {c : Nat} : ∀ {l : List Int} {st st' : List Bool}, st.length = ms.length → run1 ms c st l = some st' →
    (∀ x ∈ l, okx ms c x = true) ∧ st'.length = ms.length ∧ ∀ w, w < ms.length → nb st' w = nb st w + l.count (w : Int)
  | [], st, st', hl, h => by
    simp only [run1, Option.some.injEq] at h
    subst h
    exact ⟨by simp, hl, by simp⟩
  | x :: l, st, st', hl, h => by
    rw [run1] at h
    split at h
    · rename_i hq
      obtain ⟨h1, h2, h3⟩ := run1_some (by rw [List.length_set]; exact hl) h
      obtain ⟨k1, k2, _⟩ := okx_iff.1 hq.1
      refine ⟨fun y hy => ?_, h2, fun w hw => ?_⟩
      · rcases List.mem_cons.1 hy with rfl | hy
        · exact hq.1
        · exact h1 y hy
      · rw [h3 w hw, nb_set (by omega) hq.2, List.count_cons]
        have : (x == (w : Int)) = decide (w = x.toNat) := by
          rw [Bool.eq_iff_iff]; simp [cast_nat k1]
        rw [this]
        simp only [decide_eq_true_eq]
        omega
    · cases h
theorem run1_ok {ms : List Nat} {c : Nat} : ∀ {l : List Int} {st : List Bool}, st.length = ms.length → (∀ x ∈ l, okx ms c x = true) → (∀ w, w < ms.length → nb st w + l.count (w : Int) ≤ 1) → ∃ st', run1 ms c st l = some st'
  | [], st, _, _, _ => ⟨st, rfl⟩
  | x :: l, st, hl, hk, hc => by
    obtain ⟨k1, k2, _⟩ := okx_iff.1 (hk x (by simp))
    have hcx := hc x.toNat (by omega)
    rw [Int.toNat_of_nonneg k1, List.count_cons_self] at hcx
    have hst : st[x.toNat]? = some false := by
      have hlt : x.toNat < st.length := by omega
      rw [List.getElem?_eq_getElem hlt]
      cases e : st[x.toNat]
      · rfl
      · exfalso
        have : nb st x.toNat = 1 := nb_true (by rw [List.getElem?_eq_getElem hlt, e])
        omega
    rw [run1, if_pos ⟨hk x (by simp), hst⟩]
    refine run1_ok (by rw [List.length_set]; exact hl) (fun y hy => hk y (by simp [hy])) fun w hw => ?_
    rw [nb_set (by omega) hst]
    have := hc w hw
    rw [List.count_cons] at this
    have e : (x == (w : Int)) = decide (w = x.toNat) := by
      rw [Bool.eq_iff_iff]; simp [cast_nat k1]
    rw [e] at this
    simp only [decide_eq_true_eq] at this
    omega
theorem runs_some {ms : List Nat} : ∀ {p : List (List Int)} {c : Nat} {st st' : List Bool}, st.length = ms.length → runs ms c st p = some st' →
    (∀ (d : Nat) l, p[d]? = some l → ∀ x ∈ l, okx ms (c + d) x = true) ∧ st'.length = ms.length ∧ ∀ w, w < ms.length → nb st' w = nb st w + p.flatten.count (w : Int)
  | [], c, st, st', hl, h => by
    simp only [runs, Option.some.injEq] at h
    subst h
    exact ⟨by simp, hl, by simp⟩
  | l :: p, c, st, st', hl, h => by
    rw [runs, Option.bind_eq_some_iff] at h
    obtain ⟨s1, h1, h2⟩ := h
    obtain ⟨a1, a2, a3⟩ := run1_some hl h1
    obtain ⟨b1, b2, b3⟩ := runs_some a2 h2
    refine ⟨fun d l' hd x hx => ?_, b2, fun w hw => ?_⟩
    · cases d with
      | zero => simp only [List.getElem?_cons_zero, Option.some.injEq] at hd; subst hd; exact a1 x hx
      | succ d =>
        rw [List.getElem?_cons_succ] at hd
        have := b1 d l' hd x hx
        rwa [show c + 1 + d = c + (d + 1) by omega] at this
    · rw [b3 w hw, a3 w hw, List.flatten_cons, List.count_append]; omega
theorem runs_ok {ms : List Nat} : ∀ {p : List (List Int)} {c : Nat} {st : List Bool}, st.length = ms.length → (∀ (d : Nat) l, p[d]? = some l → ∀ x ∈ l, okx ms (c + d) x = true) → (∀ w, w < ms.length → nb st w + p.flatten.count (w : Int) ≤ 1) → ∃ st', runs ms c st p = some st'
  | [], _, st, _, _, _ => ⟨st, rfl⟩
  | l :: p, c, st, hl, hk, hc => by
    obtain ⟨s1, h1⟩ := run1_ok (c := c) hl (hk 0 l rfl) (fun w hw => by have := hc w hw; rw [List.flatten_cons, List.count_append] at this; omega)
    obtain ⟨_, a2, a3⟩ := run1_some hl h1
    rw [runs, h1]
    refine runs_ok a2 (fun d l' hd x hx => ?_) (fun w hw => ?_)
    · have := hk (d + 1) l' hd x hx
      rwa [show c + (d + 1) = c + 1 + d by omega] at this
    · have := hc w hw
      rw [List.flatten_cons, List.count_append] at this
      rw [a3 w hw]; omega
theorem feas_iff {ms : List Nat} {p : List (List Int)} : feas ms p = true ↔ Fz ms p := by
  unfold feas
  constructor
  · intro h
    cases e : runs ms 0 (List.replicate ms.length false) p with
    | none => rw [e] at h; simp at h
    | some st =>
      rw [e] at h
      simp only [Option.map_some, Option.getD_some] at h
      obtain ⟨h1, h2, h3⟩ := runs_some (by simp) e
      refine ⟨fun c l hl x hx => by have := h1 c l hl x hx; rwa [Nat.zero_add] at this, fun w hw => ?_⟩
      have h4 := h3 w hw
      rw [nb_rep, Nat.zero_add] at h4
      rw [← h4]
      refine nb_true ?_
      rw [List.getElem?_eq_getElem (by omega)]
      have := List.all_eq_true.1 h (st[w]'(by omega)) (List.getElem_mem _)
      rw [id_eq] at this
      rw [this]
  · intro h
    obtain ⟨st, e⟩ := runs_ok (ms := ms) (c := 0) (st := List.replicate ms.length false) (by simp) (fun d l hd x hx => by rw [Nat.zero_add]; exact h.ok d l hd x hx) (fun w hw => by rw [nb_rep, h.once w hw]; omega)
    obtain ⟨_, h2, h3⟩ := runs_some (ms := ms) (by simp) e
    rw [e]
    simp only [Option.map_some, Option.getD_some]
    refine List.all_eq_true.2 fun b hb => ?_
    obtain ⟨i, hi, rfl⟩ := List.getElem_of_mem hb
    have := h3 i (by omega)
    rw [nb_rep, h.once i (by omega)] at this
    unfold nb at this
    split at this
    · rename_i hq
      rw [List.getElem?_eq_getElem hi] at hq
      simpa using hq
    · omega
theorem cnt1_len {ms : List Nat} {c : Nat} : ∀ {l : List Int} {ct ct' : List Nat}, ct.length = ms.length → cnt1 ms c ct l = some ct' →
    (∀ x ∈ l, okx ms c x = true) ∧ ct'.length = ms.length ∧ ∀ w, w < ms.length → ct'[w]?.getD 0 = ct[w]?.getD 0 + l.count (w : Int)
  | [], ct, ct', hl, h => by
    simp only [cnt1, Option.some.injEq] at h
    subst h
    exact ⟨by simp, hl, by simp⟩
  | x :: l, ct, ct', hl, h => by
    rw [cnt1] at h
    split at h
    · rename_i hq
      obtain ⟨h1, h2, h3⟩ := cnt1_len (by rw [List.length_set]; exact hl) h
      obtain ⟨k1, k2, _⟩ := okx_iff.1 hq
      refine ⟨fun y hy => ?_, h2, fun w hw => ?_⟩
      · rcases List.mem_cons.1 hy with rfl | hy
        · exact hq
        · exact h1 y hy
      · rw [h3 w hw, List.count_cons]
        have : (x == (w : Int)) = decide (w = x.toNat) := by
          rw [Bool.eq_iff_iff]; simp [cast_nat k1]
        rw [this]
        simp only [decide_eq_true_eq]
        by_cases e : w = x.toNat
        · rw [← e, List.getElem?_set_self (by omega)]; simp; omega
        · rw [List.getElem?_set_ne (Ne.symm e), if_neg e]; omega
    · cases h
theorem cnt1_ok {ms : List Nat} {c : Nat} : ∀ {l : List Int} {ct : List Nat}, (∀ x ∈ l, okx ms c x = true) → ∃ ct', cnt1 ms c ct l = some ct'
  | [], ct, _ => ⟨ct, rfl⟩
  | x :: l, ct, hk => by
    rw [cnt1, if_pos (hk x (by simp))]
    exact cnt1_ok fun y hy => hk y (by simp [hy])
theorem cnts_some {ms : List Nat} : ∀ {p : List (List Int)} {c : Nat} {ct ct' : List Nat}, ct.length = ms.length → cnts ms c ct p = some ct' →
    (∀ (d : Nat) l, p[d]? = some l → ∀ x ∈ l, okx ms (c + d) x = true) ∧ ct'.length = ms.length ∧ ∀ w, w < ms.length → ct'[w]?.getD 0 = ct[w]?.getD 0 + p.flatten.count (w : Int)
  | [], c, ct, ct', hl, h => by
    simp only [cnts, Option.some.injEq] at h
    subst h
    exact ⟨by simp, hl, by simp⟩
  | l :: p, c, ct, ct', hl, h => by
    rw [cnts, Option.bind_eq_some_iff] at h
    obtain ⟨s1, h1, h2⟩ := h
    obtain ⟨a1, a2, a3⟩ := cnt1_len hl h1
    obtain ⟨b1, b2, b3⟩ := cnts_some a2 h2
    refine ⟨fun d l' hd x hx => ?_, b2, fun w hw => ?_⟩
    · cases d with
      | zero => simp only [List.getElem?_cons_zero, Option.some.injEq] at hd; subst hd; exact a1 x hx
      | succ d =>
        rw [List.getElem?_cons_succ] at hd
        have := b1 d l' hd x hx
        rwa [show c + 1 + d = c + (d + 1) by omega] at this
    · rw [b3 w hw, a3 w hw, List.flatten_cons, List.count_append]; omega
theorem cnts_ok {ms : List Nat} : ∀ {p : List (List Int)} {c : Nat} {ct : List Nat}, (∀ (d : Nat) l, p[d]? = some l → ∀ x ∈ l, okx ms (c + d) x = true) → ∃ ct', cnts ms c ct p = some ct'
  | [], _, ct, _ => ⟨ct, rfl⟩
  | l :: p, c, ct, hk => by
    obtain ⟨s1, h1⟩ := cnt1_ok (c := c) (ct := ct) (hk 0 l rfl)
    rw [cnts, h1]
    refine cnts_ok fun d l' hd x hx => ?_
    have := hk (d + 1) l' hd x hx
    rwa [show c + (d + 1) = c + 1 + d by omega] at this
theorem rfeas_iff {ms : List Nat} {p : List (List Int)} : rfeas ms p = true ↔ Fz ms p := by
  unfold rfeas
  constructor
  · intro h
    cases e : cnts ms 0 (List.replicate ms.length 0) p with
    | none => rw [e] at h; simp at h
    | some ct =>
      rw [e] at h
      simp only [Option.map_some, Option.getD_some] at h
      obtain ⟨h1, h2, h3⟩ := cnts_some (by simp) e
      refine ⟨fun c l hl x hx => by have := h1 c l hl x hx; rwa [Nat.zero_add] at this, fun w hw => ?_⟩
      have h4 := h3 w hw
      rw [List.getElem?_eq_getElem (by omega), List.getElem?_replicate_of_lt hw, Option.getD_some, Option.getD_some, Nat.zero_add] at h4
      rw [← h4]
      simpa using List.all_eq_true.1 h (ct[w]'(by omega)) (List.getElem_mem _)
  · intro h
    obtain ⟨ct, e⟩ := cnts_ok (c := 0) (ct := List.replicate ms.length 0) (fun d l hd x hx => by rw [Nat.zero_add]; exact h.ok d l hd x hx)
    obtain ⟨_, h2, h3⟩ := cnts_some (by simp) e
    rw [e]
    simp only [Option.map_some, Option.getD_some]
    refine List.all_eq_true.2 fun b hb => ?_
    obtain ⟨i, hi, rfl⟩ := List.getElem_of_mem hb
    have := h3 i (by omega)
    rw [List.getElem?_eq_getElem hi, List.getElem?_replicate_of_lt (by omega), Option.getD_some, Option.getD_some, Nat.zero_add, h.once i (by omega)] at this
    simp [this]
theorem feas_rfeas (ms : List Nat) (p : List (List Int)) : feas ms p = rfeas ms p := by
  rw [Bool.eq_iff_iff, feas_iff, rfeas_iff]

/-- may the list of the car c end? (asked of the first k wants) -/
def meTo (ms : List Nat) (st : List Bool) (c k : Nat) : Bool := (List.range k).all fun w => !(st[w]? == some false && (ms[w]?.getD 0) / 2 ^ (c + 1) == 0)
theorem meTo_succ (ms : List Nat) (st : List Bool) (c k : Nat) : meTo ms st c (k + 1) = (meTo ms st c k && !(st[k]? == some false && (ms[k]?.getD 0) / 2 ^ (c + 1) == 0)) := by
  unfold meTo; rw [List.range_succ, List.all_append]; simp
theorem meTo_iff {ms : List Nat} {st : List Bool} {c k : Nat} : meTo ms st c k = true ↔ ∀ w, w < k → st[w]? = some false → (ms[w]?.getD 0) / 2 ^ (c + 1) ≠ 0 := by
  unfold meTo
  rw [List.all_eq_true]
  constructor
  · intro h w hw hs e
    have := h w (List.mem_range.2 hw)
    simp [hs] at this
    simp at e
    omega
  · intro h w hw
    have := h w (List.mem_range.1 hw)
    by_cases hs : st[w]? = some false
    · have := this hs
      simp [hs]
      simp at this
      omega
    · simp [hs]
theorem meTo_false {ms : List Nat} {st : List Bool} {c k j : Nat} (h : meTo ms st c k = false) (hk : k ≤ j) : meTo ms st c j = false := by
  cases e : meTo ms st c j
  · rfl
  · rw [meTo_iff.2 fun w hw => meTo_iff.1 e w (by omega)] at h; cases h
/-- a want at the end of a list -/
def add (ls : List (List Int)) (c : Nat) (x : Int) : List (List Int) := ls.set c (ls[c]?.getD [] ++ [x])
/-- the wants that the car c may take -/
def gen (n : Nat) (ms : List Nat) : Nat → Nat → List Bool → List (List Int) → List (List (List Int))
  | 0, _, _, ls => [ls]
  | k + 1, c, st, ls => if c = n then [ls] else
      ((List.range ms.length).flatMap fun w => if st[w]? = some false ∧ bt (ms[w]?.getD 0) c = true then gen n ms k c (st.set w true) (add ls c w) else []) ++
        (if meTo ms st c ms.length = true then gen n ms k (c + 1) st ls else [])
/-- how many don't stand -/
def lf (st : List Bool) : Nat := st.count false
theorem lf_set : ∀ {st : List Bool} {w : Nat}, st[w]? = some false → lf (st.set w true) + 1 = lf st
  | [], _, h => by simp at h
  | b :: st, 0, h => by simp at h; subst h; simp [lf]
  | b :: st, w + 1, h => by
    have := lf_set (st := st) (w := w) (by simpa using h)
    unfold lf at this ⊢
    rw [List.set_cons_succ, List.count_cons, List.count_cons]
    omega
/-- what holds of a plan on its way -/
structure Iv (n : Nat) (ms : List Nat) (c : Nat) (st : List Bool) (ls : List (List Int)) : Prop where
  ll : ls.length = n
  sl : st.length = ms.length
  cl : c ≤ n
  ok : ∀ (d : Nat) l, ls[d]? = some l → ∀ x ∈ l, okx ms d x = true
  cn : ∀ w, w < ms.length → ls.flatten.count (w : Int) = nb st w
  em : ∀ d, c < d → ls[d]?.getD [] = []
  en : c = n → ∀ b ∈ st, b = true
theorem count_add : ∀ {ls : List (List Int)} {c : Nat} {x y : Int}, c < ls.length → (add ls c x).flatten.count y = ls.flatten.count y + if x = y then 1 else 0
  | [], _, _, _, h => by simp at h
  | l :: ls, 0, x, y, _ => by
    simp only [add, List.getElem?_cons_zero, Option.getD_some, List.set_cons_zero, List.flatten_cons, List.count_append, List.count_singleton]
    by_cases e : x = y
    · subst e; simp; omega
    · simp [e, beq_eq_false_iff_ne.2 e]
  | l :: ls, c + 1, x, y, h => by
    have := count_add (ls := ls) (c := c) (x := x) (y := y) (by simpa using h)
    simp only [add, List.getElem?_cons_succ, List.set_cons_succ, List.flatten_cons, List.count_append] at this ⊢
    omega
section
variable {n : Nat} {ms : List Nat} {c : Nat} {st : List Bool} {ls : List (List Int)}
theorem Iv.take (h : Iv n ms c st ls) (hc : c ≠ n) {w : Nat} (hs : st[w]? = some false) (hb : bt (ms[w]?.getD 0) c = true) : Iv n ms c (st.set w true) (add ls c w) := by
  have hw : w < st.length := (List.getElem?_eq_some_iff.1 hs).1
  have hcl : c < ls.length := by have := h.cl; have := h.ll; omega
  refine ⟨by unfold add; rw [List.length_set]; exact h.ll, by rw [List.length_set]; exact h.sl, h.cl, fun d l hd x hx => ?_, fun v hv => ?_, fun d hd => ?_, fun e => absurd e hc⟩
  · unfold add at hd
    by_cases e : c = d
    · subst e
      rw [List.getElem?_set_self hcl] at hd
      simp only [Option.some.injEq] at hd
      subst hd
      rcases List.mem_append.1 hx with hx | hx
      · rw [List.getElem?_eq_getElem hcl] at hx
        exact h.ok c _ (List.getElem?_eq_getElem hcl) x hx
      · simp at hx
        subst hx
        rw [okx_iff]
        have := h.sl
        exact ⟨by omega, by omega, by simpa using hb⟩
    · rw [List.getElem?_set_ne e] at hd
      exact h.ok d l hd x hx
  · rw [count_add hcl, h.cn v hv, nb_set hw hs]
    congr 1
    by_cases e : v = w
    · subst e; simp
    · rw [if_neg e, if_neg (by omega)]
  · unfold add
    rw [List.getElem?_set_ne (by omega)]
    exact h.em d hd
theorem Iv.done (h : Iv n ms c st ls) (hc : c ≠ n) (hm : ∀ m ∈ ms, m < 2 ^ n) (he : meTo ms st c ms.length = true) : Iv n ms (c + 1) st ls := by
  refine ⟨h.ll, h.sl, by have := h.cl; omega, h.ok, h.cn, fun d hd => h.em d (by omega), fun e b hb => ?_⟩
  obtain ⟨i, hi, rfl⟩ := List.getElem_of_mem hb
  cases hq : st[i]
  · exfalso
    have hsl := h.sl
    have := meTo_iff.1 he i (by omega) (by rw [List.getElem?_eq_getElem hi, hq])
    rw [e, List.getElem?_eq_getElem (by omega), Option.getD_some] at this
    exact this (Nat.div_eq_of_lt (hm _ (List.getElem_mem _)))
  · rfl
theorem Iv.zero (n : Nat) (hn : 0 < n) (ms : List Nat) : Iv n ms 0 (List.replicate ms.length false) (List.replicate n []) := by
  refine ⟨by simp, by simp, by omega, fun d l hd x hx => ?_, fun w hw => ?_, fun d _ => ?_, fun e => by omega⟩
  · rw [List.getElem?_replicate] at hd
    split at hd
    · simp at hd; subst hd; simp at hx
    · cases hd
  · rw [nb_rep]
    simp
  · rw [List.getElem?_replicate]
    split <;> rfl
theorem gen_end {k : Nat} (hc : c = n) : gen n ms k c st ls = [ls] := by
  cases k with
  | zero => rfl
  | succ k => rw [gen, if_pos hc]
theorem gen_more {k : Nat} (hk : n - c + lf st ≤ k) (h : Iv n ms c st ls) (hc : c ≠ n) : ∃ j, k = j + 1 := by
  cases k with
  | zero => have := h.cl; omega
  | succ k => exact ⟨k, rfl⟩
theorem fuel_take {k w : Nat} (hk : n - c + lf st ≤ k + 1) (hs : st[w]? = some false) : n - c + lf (st.set w true) ≤ k := by
  have := lf_set hs; omega
theorem fuel_done {k : Nat} (hk : n - c + lf st ≤ k + 1) (h : Iv n ms c st ls) (hc : c ≠ n) : n - (c + 1) + lf st ≤ k := by
  have := h.cl; omega
end
theorem gen_fz {n : Nat} {ms : List Nat} (hm : ∀ m ∈ ms, m < 2 ^ n) : ∀ {k c : Nat} {st : List Bool} {ls : List (List Int)}, n - c + lf st ≤ k → Iv n ms c st ls → ∀ p ∈ gen n ms k c st ls, Fz ms p ∧ p.length = n := by
  intro k
  induction k with
  | zero =>
    intro c st ls hk h p hp
    have hc : c = n := by have := h.cl; omega
    rw [gen_end hc] at hp
    simp at hp
    subst hp
    refine ⟨⟨h.ok, fun w hw => ?_⟩, h.ll⟩
    rw [h.cn w hw]
    have hsl := h.sl
    exact nb_true (by rw [List.getElem?_eq_getElem (by omega), h.en hc _ (List.getElem_mem _)])
  | succ k ih =>
    intro c st ls hk h p hp
    by_cases hc : c = n
    · rw [gen_end hc] at hp
      simp at hp
      subst hp
      refine ⟨⟨h.ok, fun w hw => ?_⟩, h.ll⟩
      rw [h.cn w hw]
      have hsl := h.sl
      exact nb_true (by rw [List.getElem?_eq_getElem (by omega), h.en hc _ (List.getElem_mem _)])
    · rw [gen, if_neg hc] at hp
      rcases List.mem_append.1 hp with hp | hp
      · obtain ⟨w, _, hp⟩ := List.mem_flatMap.1 hp
        split at hp
        · rename_i hq
          exact ih (fuel_take hk hq.1) (h.take hc hq.1 hq.2) p hp
        · simp at hp
      · split at hp
        · rename_i hq
          exact ih (fuel_done hk h hc) (h.done hc hm hq) p hp
        · simp at hp

/-- the places of the lists from the car c on -/
def tt (c : Nat) : Nat → Nat := fun i => if c ≤ i then 1 else 0
theorem tt_dec (c : Nat) : dec (tt c) c = tt (c + 1) := by
  funext i
  unfold dec tt
  by_cases h : i = c
  · subst h; simp
  · rw [if_neg h]
    by_cases h2 : c ≤ i
    · rw [if_pos h2, if_pos (by omega)]
    · rw [if_neg h2, if_neg (by omega)]
theorem gen_len {n : Nat} {ms : List Nat} (hm : ∀ m ∈ ms, m < 2 ^ n) : ∀ {k c : Nat} {st : List Bool} {ls : List (List Int)}, n - c + lf st ≤ k → Iv n ms c st ls → (gen n ms k c st ls).length = kp n (tt c) ms st := by
  intro k
  induction k with
  | zero =>
    intro c st ls hk h
    have hc : c = n := by have := h.cl; omega
    rw [gen_end hc, kp_all (h.en hc)]; rfl
  | succ k ih =>
    intro c st ls hk h
    by_cases hc : c = n
    · rw [gen_end hc, kp_all (h.en hc)]; rfl
    · rw [gen, if_neg hc, List.length_append, len_flat, kp_first (c0 := c) (by have := h.cl; omega) h.sl.symm (by unfold tt; simp), tt_dec, Nat.add_comm]
      congr 1
      · split
        · rename_i hq
          exact ih (fuel_done hk h hc) (h.done hc hm hq)
        · rename_i hq
          rw [meTo_iff] at hq
          have : ∃ w, w < ms.length ∧ st[w]? = some false ∧ (ms[w]?.getD 0) / 2 ^ (c + 1) = 0 := by
            apply Classical.byContradiction
            intro hn
            exact hq fun w hw hs e => hn ⟨w, hw, hs, e⟩
          obtain ⟨w, hw, hs, e⟩ := this
          rw [List.getElem?_eq_getElem hw, Option.getD_some] at e
          exact (kp_none (List.getElem?_eq_getElem hw) hs fun d _ hb => by
            unfold tt
            by_cases hd : c + 1 ≤ d
            · rw [bt_high e hd] at hb; cases hb
            · rw [if_neg hd]).symm
      · refine sm_congr fun w _ => ?_
        split
        · rename_i hq
          exact ih (fuel_take hk hq.1) (h.take hc hq.1 hq.2)
        · rfl

/-- a plan as numbers -/
def wr (m : Nat) (p : List (List Int)) : List Int := p.flatMap fun l => l ++ [(m : Int)]
/-- which of two writings is less -/
def lx : List Int → List Int → Bool
  | [], [] => false
  | [], _ :: _ => true
  | _ :: _, [] => false
  | a :: x, b :: y => if a = b then lx x y else decide (a < b)
theorem lx_pre (q : List Int) {a b : Int} (h : a < b) (x y : List Int) : lx (q ++ a :: x) (q ++ b :: y) = true := by
  induction q with
  | nil => simp only [List.nil_append, lx]; rw [if_neg (by omega)]; simp [h]
  | cons d q ih => simp only [List.cons_append, lx, if_true]; exact ih
/-- how all that go on from here begin -/
def pf (m c : Nat) (ls : List (List Int)) : List Int := wr m (ls.take c) ++ ls[c]?.getD []
theorem pf_take {m c : Nat} {ls : List (List Int)} (h : c < ls.length) (x : Int) : pf m c (add ls c x) = pf m c ls ++ [x] := by
  unfold pf add
  rw [List.take_set_of_le (Nat.le_refl _), List.getElem?_set_self h, Option.getD_some, List.append_assoc]
theorem pf_done {m c : Nat} {ls : List (List Int)} (h : c < ls.length) (he : ls[c + 1]?.getD [] = []) : pf m (c + 1) ls = pf m c ls ++ [(m : Int)] := by
  unfold pf wr
  rw [he, List.append_nil, List.take_add_one, List.getElem?_eq_getElem h, List.flatMap_append]
  simp
theorem gen_pf {n : Nat} {ms : List Nat} (hm : ∀ m ∈ ms, m < 2 ^ n) : ∀ {k c : Nat} {st : List Bool} {ls : List (List Int)}, n - c + lf st ≤ k → Iv n ms c st ls → ∀ p ∈ gen n ms k c st ls, ∃ r, wr ms.length p = pf ms.length c ls ++ r := by
  intro k
  induction k with
  | zero =>
    intro c st ls hk h p hp
    have hc : c = n := by have := h.cl; omega
    rw [gen_end hc] at hp
    simp at hp
    subst hp
    refine ⟨[], ?_⟩
    have hl := h.ll
    unfold pf
    rw [List.take_of_length_le (by omega), List.getElem?_eq_none (by omega)]; simp
  | succ k ih =>
    intro c st ls hk h p hp
    by_cases hc : c = n
    · rw [gen_end hc] at hp
      simp at hp
      subst hp
      refine ⟨[], ?_⟩
      have hl := h.ll
      unfold pf
      rw [List.take_of_length_le (by omega), List.getElem?_eq_none (by omega)]; simp
    · have hcl : c < ls.length := by have := h.cl; have := h.ll; omega
      rw [gen, if_neg hc] at hp
      rcases List.mem_append.1 hp with hp | hp
      · obtain ⟨w, _, hp⟩ := List.mem_flatMap.1 hp
        split at hp
        · rename_i hq
          obtain ⟨r, hr⟩ := ih (fuel_take hk hq.1) (h.take hc hq.1 hq.2) p hp
          exact ⟨[(w : Int)] ++ r, by rw [hr, pf_take hcl, List.append_assoc]⟩
        · simp at hp
      · split at hp
        · rename_i hq
          obtain ⟨r, hr⟩ := ih (fuel_done hk h hc) (h.done hc hm hq) p hp
          exact ⟨[(ms.length : Int)] ++ r, by rw [hr, pf_done hcl (h.em _ (by omega)), List.append_assoc]⟩
        · simp at hp
theorem range_pw {R : Nat → Nat → Prop} (h : ∀ a b, a < b → R a b) (m : Nat) : (List.range m).Pairwise R := by
  induction m with
  | zero => simp
  | succ m ih =>
    rw [List.range_succ, List.pairwise_append]
    refine ⟨ih, by simp, fun a ha b hb => ?_⟩
    simp at ha hb
    subst hb
    exact h a b ha
theorem gen_sorted {n : Nat} {ms : List Nat} (hm : ∀ m ∈ ms, m < 2 ^ n) : ∀ {k c : Nat} {st : List Bool} {ls : List (List Int)}, n - c + lf st ≤ k → Iv n ms c st ls →
    (gen n ms k c st ls).Pairwise fun p q => lx (wr ms.length p) (wr ms.length q) = true := by
  intro k
  induction k with
  | zero =>
    intro c st ls hk h
    rw [gen_end (by have := h.cl; omega)]; simp
  | succ k ih =>
    intro c st ls hk h
    by_cases hc : c = n
    · rw [gen_end hc]; simp
    · have hcl : c < ls.length := by have := h.cl; have := h.ll; omega
      rw [gen, if_neg hc, List.pairwise_append, List.pairwise_flatMap]
      refine ⟨⟨fun w _ => ?_, range_pw (fun a b hab x hx y hy => ?_) _⟩, ?_, fun x hx y hy => ?_⟩
      · split
        · rename_i hq
          exact ih (fuel_take hk hq.1) (h.take hc hq.1 hq.2)
        · simp
      · split at hx
        · rename_i hq
          split at hy
          · rename_i hq'
            obtain ⟨r, hr⟩ := gen_pf hm (fuel_take hk hq.1) (h.take hc hq.1 hq.2) x hx
            obtain ⟨s, hs⟩ := gen_pf hm (fuel_take hk hq'.1) (h.take hc hq'.1 hq'.2) y hy
            rw [hr, hs, pf_take hcl, pf_take hcl, List.append_assoc, List.append_assoc]
            exact lx_pre _ (by omega) _ _
          · simp at hy
        · simp at hx
      · split
        · rename_i hq
          exact ih (fuel_done hk h hc) (h.done hc hm hq)
        · simp
      · obtain ⟨w, hw, hx⟩ := List.mem_flatMap.1 hx
        split at hx
        · rename_i hq
          split at hy
          · rename_i hq'
            obtain ⟨r, hr⟩ := gen_pf hm (fuel_take hk hq.1) (h.take hc hq.1 hq.2) x hx
            obtain ⟨s, hs⟩ := gen_pf hm (fuel_done hk h hc) (h.done hc hm hq') y hy
            rw [hr, hs, pf_take hcl, pf_done hcl (h.em _ (by omega)), List.append_assoc, List.append_assoc]
            exact lx_pre _ (by have := List.mem_range.1 hw; omega) _ _
          · simp at hy
        · simp at hx

end PM
end Go.Proofs.Ytjpkekmccbpclaj

/- What a call leaves as it was; pairs, numbers and plans in memory. -/
namespace Go.Proofs.Ytjpkekmccbpclaj
open Go.RowKit

/-- what is written lies in F; all else that was there is as it was -/
structure Kp (F : Nat → Prop) (w w' : World) : Prop where
  os : w'.os = w.os
  tape : w'.tape = w.tape
  output : w'.output = w.output
  size : w.heap.size ≤ w'.heap.size
  block : ∀ k, k < w.heap.size → ¬ F k → w'.heap[k]? = w.heap[k]?
section
variable {F G : Nat → Prop} {w w' w'' : World}
theorem Kp.refl (F : Nat → Prop) (w : World) : Kp F w w := ⟨rfl, rfl, rfl, Nat.le_refl _, fun _ _ _ => rfl⟩
theorem Kp.trans (h : Kp F w w') (k : Kp G w' w'') (hg : ∀ i, i < w.heap.size → G i → F i) : Kp F w w'' :=
  ⟨k.os.trans h.os, k.tape.trans h.tape, k.output.trans h.output, Nat.le_trans h.size k.size, fun i hi hf => (k.block i (Nat.lt_of_lt_of_le hi h.size) (fun hG => hf (hg i hi hG))).trans (h.block i hi hf)⟩
theorem Kp.mono (h : Kp F w w') (hg : ∀ i, i < w.heap.size → F i → G i) : Kp G w w' := ⟨h.os, h.tape, h.output, h.size, fun i hi hf => h.block i hi (fun hF => hf (hg i hi hF))⟩
theorem Kp.ofBelow (F : Nat → Prop) (h : Below w.heap.size w w') : Kp F w w' := ⟨h.os, h.tape, h.output, h.size, fun i hi _ => h.block i hi⟩
theorem Kp.toBelow {B : Nat} (h : Kp F w w') (hB : B ≤ w.heap.size) (hF : ∀ i, i < B → ¬ F i) : Below B w w' := ⟨h.os, h.tape, h.output, h.size, fun i hi => h.block i (by omega) (hF i hi)⟩
theorem Kp.below {B : Nat} {a : World} (h : Kp F w w') (hb : Below B a w) (hB : B ≤ w.heap.size) (hF : ∀ i, i < B → ¬ F i) : Below B a w' := hb.trans (h.toBelow hB hF)
theorem Kp.thenBelow (h : Kp F w w') (k : Below w'.heap.size w' w'') : Kp F w w'' := h.trans (Kp.ofBelow F k) (fun _ _ h => h)
theorem Kp.alloc (h : Kp F w w') (o : Obj) : Kp F w (w'.alloc o) := h.trans (Kp.ofBelow F ((Below.refl _ _).alloc (Nat.le_refl _) o)) (fun _ _ h => h)
theorem Kp.drew (h : Kp F w w') : Kp F w w'.drew := h.trans (Kp.ofBelow F (Below.refl _ _).drew) (fun _ _ h => h)
theorem Kp.set (h : Kp F w w') (b i : Nat) (u : Value) (hF : b < w.heap.size → F b) : Kp F w (w'.setCell ⟨b, i, none⟩ u) :=
  h.trans (G := fun k => k = b) ⟨rfl, rfl, rfl, by simp [World.setCell], fun k _ hk => Below.heap_setCell _ _ _ _ hk⟩ (fun k hk e => by subst e; exact hF hk)
theorem Kp.put (h : Kp F w w') (b : Nat) (o : Obj) (hF : b < w.heap.size → F b) : Kp F w (w'.putObj b o) :=
  h.trans (G := fun k => k = b) ⟨rfl, rfl, rfl, by simp, fun k _ hk => World.putObj_heap_other hk⟩ (fun k hk e => by subst e; exact hF hk)
theorem Kp.grown {row : Option Nat} (h : Kp F w w') (hg : w'.grownBy w'' row) (hF : ∀ k, k < w.heap.size → row = some k → F k) : Kp F w w'' :=
  h.trans (G := fun k => row = some k) ⟨hg.os, hg.tape, hg.output, hg.size, fun k hk hne => hg.block k hk (fun e => hne e.symm)⟩ (fun k hk e => hF k hk e)
end

/-- a slice that reads as pairs of numbers, in blocks of D -/
def R2 (D : Nat → Prop) (W : World) (v : Value) (l : List (Int × Int)) : Prop :=
  ∃ a cap, v = .slice a l.length cap ∧ l.length ≤ cap ∧ (a = none → cap = 0) ∧ (l = [] ∨ ∃ g o, a = some ⟨g, o, none⟩ ∧ D g ∧ g < W.heap.size ∧ ∀ (i : Nat) y, l[i]? = some y → W.cell? ⟨g, o + i * 2, none⟩ = some (.int .i64 y.1) ∧ W.cell? ⟨g, o + i * 2 + 1, none⟩ = some (.int .i64 y.2))
/-- a slice that reads as numbers, in blocks of D -/
def RI (D : Nat → Prop) (W : World) (v : Value) (l : List Int) : Prop :=
  ∃ a cap, v = .slice a l.length cap ∧ l.length ≤ cap ∧ (a = none → cap = 0) ∧ (l = [] ∨ ∃ g o, a = some ⟨g, o, none⟩ ∧ D g ∧ g < W.heap.size ∧ ∀ (i : Nat) x, l[i]? = some x → W.cell? ⟨g, o + i, none⟩ = some (.int .i64 x))
/-- a slice that reads as lists of numbers, all in blocks of D -/
def RL (D : Nat → Prop) (W : World) (v : Value) (p : List (List Int)) : Prop :=
  ∃ a cap, v = .slice a p.length cap ∧ p.length ≤ cap ∧ (a = none → cap = 0) ∧ (p = [] ∨ ∃ g o, a = some ⟨g, o, none⟩ ∧ D g ∧ g < W.heap.size ∧ ∀ (i : Nat) l, p[i]? = some l → ∃ u, W.cell? ⟨g, o + i, none⟩ = some u ∧ RI D W u l)
section
variable {D D' : Nat → Prop} {W W' : World} {v : Value}
theorem R2.keep {l : List (Int × Int)} (h : R2 D W v l) (hs : W.heap.size ≤ W'.heap.size) (hk : ∀ g, D g → g < W.heap.size → W'.heap[g]? = W.heap[g]?) : R2 D W' v l := by
  obtain ⟨a, cap, rfl, hc, hn, h⟩ := h
  refine ⟨a, cap, rfl, hc, hn, ?_⟩
  rcases h with h | ⟨g, o, rfl, hd, hlt, h⟩
  · exact .inl h
  · exact .inr ⟨g, o, rfl, hd, Nat.lt_of_lt_of_le hlt hs, fun i y hy => ⟨(World.cell?_of_block (a := ⟨g, o + i * 2, none⟩) (hk g hd hlt)).trans (h i y hy).1, (World.cell?_of_block (a := ⟨g, o + i * 2 + 1, none⟩) (hk g hd hlt)).trans (h i y hy).2⟩⟩
theorem RI.keep {l : List Int} (h : RI D W v l) (hs : W.heap.size ≤ W'.heap.size) (hk : ∀ g, D g → g < W.heap.size → W'.heap[g]? = W.heap[g]?) : RI D W' v l := by
  obtain ⟨a, cap, rfl, hc, hn, h⟩ := h
  refine ⟨a, cap, rfl, hc, hn, ?_⟩
  rcases h with h | ⟨g, o, rfl, hd, hlt, h⟩
  · exact .inl h
  · exact .inr ⟨g, o, rfl, hd, Nat.lt_of_lt_of_le hlt hs, fun i y hy => (World.cell?_of_block (a := ⟨g, o + i, none⟩) (hk g hd hlt)).trans (h i y hy)⟩
theorem RL.keep {p : List (List Int)} (h : RL D W v p) (hs : W.heap.size ≤ W'.heap.size) (hk : ∀ g, D g → g < W.heap.size → W'.heap[g]? = W.heap[g]?) : RL D W' v p := by
  obtain ⟨a, cap, rfl, hc, hn, h⟩ := h
  refine ⟨a, cap, rfl, hc, hn, ?_⟩
  rcases h with h | ⟨g, o, rfl, hd, hlt, h⟩
  · exact .inl h
  · refine .inr ⟨g, o, rfl, hd, Nat.lt_of_lt_of_le hlt hs, fun i l hl => ?_⟩
    obtain ⟨u, h1, h2⟩ := h i l hl
    exact ⟨u, (World.cell?_of_block (a := ⟨g, o + i, none⟩) (hk g hd hlt)).trans h1, h2.keep hs hk⟩
theorem R2.mono {l : List (Int × Int)} (h : R2 D W v l) (hD : ∀ g, D g → g < W.heap.size → (∃ o : Obj, W.heap[g]? = some o ∧ o.isCells = true) → D' g) : R2 D' W v l := by
  obtain ⟨a, cap, rfl, hc, hn, h⟩ := h
  refine ⟨a, cap, rfl, hc, hn, ?_⟩
  rcases h with h | ⟨g, o, rfl, hd, hlt, h⟩
  · exact .inl h
  · cases l with
    | nil => exact .inl rfl
    | cons y l => exact .inr ⟨g, o, rfl, hD g hd hlt (cells_of_cell (h 0 y rfl).1), hlt, h⟩
theorem RI.mono {l : List Int} (h : RI D W v l) (hD : ∀ g, D g → g < W.heap.size → (∃ o : Obj, W.heap[g]? = some o ∧ o.isCells = true) → D' g) : RI D' W v l := by
  obtain ⟨a, cap, rfl, hc, hn, h⟩ := h
  refine ⟨a, cap, rfl, hc, hn, ?_⟩
  rcases h with h | ⟨g, o, rfl, hd, hlt, h⟩
  · exact .inl h
  · cases l with
    | nil => exact .inl rfl
    | cons y l => exact .inr ⟨g, o, rfl, hD g hd hlt (cells_of_cell (h 0 y rfl)), hlt, h⟩
theorem RL.mono {p : List (List Int)} (h : RL D W v p) (hD : ∀ g, D g → g < W.heap.size → (∃ o : Obj, W.heap[g]? = some o ∧ o.isCells = true) → D' g) : RL D' W v p := by
  obtain ⟨a, cap, rfl, hc, hn, h⟩ := h
  refine ⟨a, cap, rfl, hc, hn, ?_⟩
  rcases h with h | ⟨g, o, rfl, hd, hlt, h⟩
  · exact .inl h
  · cases p with
    | nil => exact .inl rfl
    | cons y l =>
      obtain ⟨u, h1, _⟩ := h 0 y rfl
      refine .inr ⟨g, o, rfl, hD g hd hlt (cells_of_cell h1), hlt, fun i l hl => ?_⟩
      obtain ⟨u, h1, h2⟩ := h i l hl
      exact ⟨u, h1, h2.mono hD⟩
theorem R2.below' {l : List (Int × Int)} (h : R2 D W v l) (hb : Below W.heap.size W W') : R2 D W' v l := h.keep hb.size fun g _ hlt => hb.block g hlt
theorem RI.below' {l : List Int} (h : RI D W v l) (hb : Below W.heap.size W W') : RI D W' v l := h.keep hb.size fun g _ hlt => hb.block g hlt
theorem RL.below' {p : List (List Int)} (h : RL D W v p) (hb : Below W.heap.size W W') : RL D W' v p := h.keep hb.size fun g _ hlt => hb.block g hlt
theorem R2.alloc {l : List (Int × Int)} (h : R2 D W v l) (o : Obj) : R2 D (W.alloc o) v l := h.below' ((Below.refl _ _).alloc (Nat.le_refl _) o)
theorem RI.alloc {l : List Int} (h : RI D W v l) (o : Obj) : RI D (W.alloc o) v l := h.below' ((Below.refl _ _).alloc (Nat.le_refl _) o)
theorem RL.alloc {p : List (List Int)} (h : RL D W v p) (o : Obj) : RL D (W.alloc o) v p := h.below' ((Below.refl _ _).alloc (Nat.le_refl _) o)
theorem R2.form {l : List (Int × Int)} (h : R2 D W v l) : ∃ a cap, v = .slice a l.length cap ∧ l.length ≤ cap ∧ (a = none → cap = 0) := by
  obtain ⟨a, cap, h1, h2, h3, _⟩ := h
  exact ⟨a, cap, h1, h2, h3⟩
theorem RI.form {l : List Int} (h : RI D W v l) : ∃ a cap, v = .slice a l.length cap ∧ l.length ≤ cap ∧ (a = none → cap = 0) := by
  obtain ⟨a, cap, h1, h2, h3, _⟩ := h
  exact ⟨a, cap, h1, h2, h3⟩
theorem RL.form {p : List (List Int)} (h : RL D W v p) : ∃ a cap, v = .slice a p.length cap ∧ p.length ≤ cap ∧ (a = none → cap = 0) := by
  obtain ⟨a, cap, h1, h2, h3, _⟩ := h
  exact ⟨a, cap, h1, h2, h3⟩
theorem R2.at {l : List (Int × Int)} {a : Option Addr} {n cap : Nat} (h : R2 D W (.slice a n cap) l) {i : Nat} {y : Int × Int} (hi : l[i]? = some y) : ∃ g o, a = some ⟨g, o, none⟩ ∧ W.cell? ⟨g, o + i * 2, none⟩ = some (.int .i64 y.1) ∧ W.cell? ⟨g, o + i * 2 + 1, none⟩ = some (.int .i64 y.2) := by
  obtain ⟨a', cap', e, _, _, h⟩ := h
  cases e
  rcases h with h | ⟨g, o, rfl, _, _, h⟩
  · rw [h] at hi; simp at hi
  · exact ⟨g, o, rfl, h i y hi⟩
theorem RI.at {l : List Int} {a : Option Addr} {n cap : Nat} (h : RI D W (.slice a n cap) l) {i : Nat} {y : Int} (hi : l[i]? = some y) : ∃ g o, a = some ⟨g, o, none⟩ ∧ W.cell? ⟨g, o + i, none⟩ = some (.int .i64 y) := by
  obtain ⟨a', cap', e, _, _, h⟩ := h
  cases e
  rcases h with h | ⟨g, o, rfl, _, _, h⟩
  · rw [h] at hi; simp at hi
  · exact ⟨g, o, rfl, h i y hi⟩
theorem RL.at {p : List (List Int)} {a : Option Addr} {n cap : Nat} (h : RL D W (.slice a n cap) p) {i : Nat} {l : List Int} (hi : p[i]? = some l) : ∃ g o, a = some ⟨g, o, none⟩ ∧ ∃ u, W.cell? ⟨g, o + i, none⟩ = some u ∧ RI D W u l := by
  obtain ⟨a', cap', e, _, _, h⟩ := h
  cases e
  rcases h with h | ⟨g, o, rfl, _, _, h⟩
  · rw [h] at hi; simp at hi
  · exact ⟨g, o, rfl, h i l hi⟩
theorem R2.len {l : List (Int × Int)} {a : Option Addr} {n cap : Nat} (h : R2 D W (.slice a n cap) l) : n = l.length := by
  obtain ⟨a', cap', e, _⟩ := h
  cases e; rfl
theorem RI.len {l : List Int} {a : Option Addr} {n cap : Nat} (h : RI D W (.slice a n cap) l) : n = l.length := by
  obtain ⟨a', cap', e, _⟩ := h
  cases e; rfl
theorem RL.len {p : List (List Int)} {a : Option Addr} {n cap : Nat} (h : RL D W (.slice a n cap) p) : n = p.length := by
  obtain ⟨a', cap', e, _⟩ := h
  cases e; rfl
theorem RI.nil (D : Nat → Prop) (W : World) : RI D W (.slice none 0 0) [] := ⟨none, 0, rfl, Nat.le_refl _, fun _ => rfl, .inl rfl⟩
theorem RL.nil (D : Nat → Prop) (W : World) : RL D W (.slice none 0 0) [] := ⟨none, 0, rfl, Nat.le_refl _, fun _ => rfl, .inl rfl⟩
/-- the cells of a list that isn't empty -/
theorem RI.cells {l : List Int} {g o n cap : Nat} (h : RI D W (.slice (some ⟨g, o, none⟩) n cap) l) : ∀ (i : Nat) x, l[i]? = some x → W.cell? ⟨g, o + i, none⟩ = some (.int .i64 x) := fun i x hi => by
  obtain ⟨g', o', e, h⟩ := h.at hi
  cases e
  exact h
end

/- where the elements of slices lie -/
theorem ixI (W : World) {a : Option Addr} {g o n cap j : Nat} (ha : a = some ⟨g, o, none⟩) (hj : j < n) : (Instr.indexAt 28 (.slice a n cap) (.int .i64 (j : Int))).run Try.prog W = .ok (.pointer (some ⟨g, o + j, none⟩)) W := by
  subst ha
  rw [run_indexAt_slice W 28 _ n cap .i64 j (by kernel_rfl), if_pos ⟨by omega, by omega⟩, show Try.prog.elem 28 = 3 by kernel_rfl, Try.sizeOf3]
  simp only [Result.andThen_ok, Int.toNat_natCast, Addr.add_mid, Nat.mul_one]
/-- the cells of numbers -/
def ic (l : List Int) : List Value := l.map fun (n : Int) => Value.int .i64 n
theorem ic_length (l : List Int) : (ic l).length = l.length := by unfold ic; rw [List.length_map]
theorem ic_append (l m : List Int) : ic (l ++ m) = ic l ++ ic m := by unfold ic; rw [List.map_append]
theorem ic_some {l : List Int} {i : Nat} {x : Int} (h : l[i]? = some x) : (ic l)[i]? = some (.int .i64 x) := by
  unfold ic; rw [List.getElem?_map, h]; rfl
theorem ic_get {l : List Int} {i : Nat} {u : Value} (h : (ic l)[i]? = some u) : ∃ x, l[i]? = some x ∧ u = .int .i64 x := by
  unfold ic at h
  rw [List.getElem?_map] at h
  cases e : l[i]? with
  | none => rw [e] at h; simp at h
  | some x => rw [e] at h; simp at h; exact ⟨x, rfl, h.symm⟩
theorem ic_one (l : List Int) : ∀ u ∈ ic l, u.oneCell' = true := by
  intro u hu
  obtain ⟨n, _, rfl⟩ := List.mem_map.1 hu
  rfl
/-- a slice value that owns a row of numbers, in blocks from B on -/
def OI (W : World) (B : Nat) (v : Value) (l : List Int) : Prop := W.ownsRow B 3 1 v l.length (ic l)
section
variable {W W' : World} {B : Nat} {v : Value} {l : List Int}
theorem OI.nil (W : World) (B : Nat) : OI W B (.slice none 0 0) [] := World.ownsRow_nil W B _ 1
theorem OI.form (h : OI W B v l) : (v = .slice none 0 0 ∧ l = []) ∨ ∃ g cap, v = .slice (some ⟨g, 0, none⟩) l.length cap ∧ B ≤ g ∧ g < W.heap.size ∧ l.length ≤ cap ∧ cap ≤ maxLen := by
  rcases h.2 with ⟨h1, h2⟩ | ⟨g, cap, cur, hv, hb, hg, hc, hm, _⟩
  · exact .inl ⟨h1, List.length_eq_zero_iff.1 h2⟩
  · exact .inr ⟨g, cap, hv, hb, (Array.getElem?_eq_some_iff.1 hg).1, hc, hm⟩
theorem OI.slice (h : OI W B v l) : ∃ a c, v = .slice a l.length c := by
  rcases h.form with ⟨rfl, rfl⟩ | ⟨g, cap, rfl, _⟩
  · exact ⟨none, 0, rfl⟩
  · exact ⟨_, cap, rfl⟩
theorem OI.lt (h : OI W B v l) : ∀ g, v.ownBlock = some g → B ≤ g ∧ g < W.heap.size := World.ownsRow.lt h
theorem OI.keep (h : OI W B v l) (hk : ∀ g, v.ownBlock = some g → W'.heap[g]? = W.heap[g]?) : OI W' B v l := by
  refine ⟨h.1, ?_⟩
  rcases h.2 with h2 | ⟨g, cap, cur, hv, hb, hg, r⟩
  · exact .inl h2
  · exact .inr ⟨g, cap, cur, hv, hb, (hk g (by rw [hv]; rfl)).trans hg, r⟩
theorem OI.below' (h : OI W B v l) (hb : Below W.heap.size W W') : OI W' B v l := h.keep fun g hg => hb.block g (h.lt g hg).2
theorem OI.alloc (h : OI W B v l) (o : Obj) : OI (W.alloc o) B v l := h.below' ((Below.refl _ _).alloc (Nat.le_refl _) o)
theorem OI.mono {B' : Nat} (h : OI W B v l) (hB : B' ≤ B) : OI W B' v l := by
  refine ⟨h.1, ?_⟩
  rcases h.2 with h2 | ⟨g, cap, cur, hv, hb, r⟩
  · exact .inl h2
  · exact .inr ⟨g, cap, cur, hv, Nat.le_trans hB hb, r⟩
theorem OI.cell {g cap n : Nat} (h : OI W B (.slice (some ⟨g, 0, none⟩) n cap) l) {i : Nat} {x : Int} (hi : l[i]? = some x) : W.cell? ⟨g, i, none⟩ = some (.int .i64 x) := by
  have := World.ownsRow.cells h (g := g) rfl i _ (ic_some hi)
  rwa [Addr.add_mid, Nat.zero_add] at this
theorem OI.ri {D : Nat → Prop} (h : OI W B v l) (hD : ∀ g, v.ownBlock = some g → D g) : RI D W v l := by
  rcases h.form with ⟨rfl, rfl⟩ | ⟨g, cap, rfl, _, hlt, hc, hm⟩
  · exact RI.nil _ _
  · exact ⟨_, cap, rfl, hc, (fun e => by cases e), .inr ⟨g, 0, rfl, hD g rfl, hlt, fun i x hx => by rw [Nat.zero_add]; exact h.cell hx⟩⟩
theorem OI.len {a : Option Addr} {n cap : Nat} (h : OI W B (.slice a n cap) l) : n = l.length := by
  rcases h.form with ⟨h1, h2⟩ | ⟨g, c, h1, _⟩
  · cases h1; rw [h2]; rfl
  · cases h1; rfl
theorem OI.fr {g cap n : Nat} (h : OI W B (.slice (some ⟨g, 0, none⟩) n cap) l) (j : Nat) : W.frozen? ⟨g, j, none⟩ = false := by
  have hn := h.len
  subst hn
  exact World.ownsRow.frozenAt h j
theorem ic_set (l : List Int) (i : Nat) (x : Int) : (ic l).set i (.int .i64 x) = ic (l.set i x) := by unfold ic; rw [List.map_set]
/-- a number is written -/
theorem OI.put {g cap n : Nat} (h : OI W B (.slice (some ⟨g, 0, none⟩) n cap) l) (i : Nat) (x : Int) : OI (W.setCell ⟨g, i, none⟩ (.int .i64 x)) B (.slice (some ⟨g, 0, none⟩) n cap) (l.set i x) := by
  have hn := h.len
  subst hn
  have := (World.ownsRow.stored h i (.int .i64 x)).1
  rw [ic_set] at this
  unfold OI
  rw [List.length_set]
  exact this
/-- a slice of numbers that was just typed -/
theorem OI.lit (W : World) (l : List Int) (hB : B ≤ W.heap.size) (hm : l.length ≤ maxLen) : OI (W.alloc (.cells (ic l).toArray 3)) B (.slice (some ⟨W.heap.size, 0, none⟩) l.length l.length) l := by
  have := World.ownsRow_lit (e := 3) (size := 1) W (ic l).toArray l.length hB hm (by simp [ic_length])
  simpa [OI] using this
/-- the last one is taken out -/
theorem OI.drop {g cap n k : Nat} {x : Int} (h : OI W B (.slice (some ⟨g, 0, none⟩) n cap) (l ++ [x])) (hk : k = l.length) : OI W B (.slice (some ⟨g, 0, none⟩) k cap) l := by
  subst hk
  obtain ⟨h1, h2⟩ := h
  refine ⟨by rw [ic_length, Nat.mul_one], ?_⟩
  rcases h2 with ⟨h2, _⟩ | ⟨g', cap', cur, hv, hb, hg, hc, hm, hs, ht⟩
  · cases h2
  · cases hv
    rw [List.length_append] at hc ht
    simp only [List.length_cons, List.length_nil] at hc ht
    refine .inr ⟨g, cap, cur, rfl, hb, hg, by omega, hm, hs, ?_⟩
    rw [ic_append] at ht
    have h3 := congrArg (List.take l.length) ht
    rw [List.take_take, List.take_left' (by rw [ic_length])] at h3
    rw [Nat.mul_one]
    rwa [show min l.length ((l.length + (0 + 1)) * 1) = l.length by omega] at h3
end
theorem infoI : (Try.prog.info? 3).map (fun i => (i.zero, i.size, i.bytes)) = some (some (.int .i64 0), 1, 8) := by kernel_rfl

end Go.Proofs.Ytjpkekmccbpclaj
