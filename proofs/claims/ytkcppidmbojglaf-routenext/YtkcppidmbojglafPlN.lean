/- Which plans may be, told in two ways, and all of them in their order. No program is named here. -/
import Derived.Test.YtkcppidmbojglafPlM
namespace Go.Proofs.Ytkcppidmbojglaf
namespace PM

/-- may this number stand in the list of the car c? -/
def okx (ms : List Nat) (c : Nat) (x : Int) : Bool := decide (0 ≤ x) && decide (x < ms.length) && bt (ms[x.toNat]?.getD 0) c
theorem okx_iff {ms : List Nat} {c : Nat} {x : Int} : okx ms c x = true ↔ 0 ≤ x ∧ x < ms.length ∧ bt (ms[x.toNat]?.getD 0) c = true := by
  unfold okx; simp [and_assoc]
/-- 1, if the want stands -/
def nb (st : List Bool) (w : Nat) : Nat := if st[w]? = some true then 1 else 0
theorem nb_set {st : List Bool} {w v : Nat} (hv : v < st.length) (h : st[v]? = some false) : nb (st.set v true) w = nb st w + if w = v then 1 else 0 := by
  unfold nb
  by_cases e : w = v
  · subst e; rw [List.getElem?_set_self hv, h]; simp
  · rw [List.getElem?_set_ne (Ne.symm e)]; simp [e]
theorem nb_true {st : List Bool} {w : Nat} (h : st[w]? = some true) : nb st w = 1 := by unfold nb; rw [if_pos h]
theorem nb_false {st : List Bool} {w : Nat} (h : st[w]? = some false) : nb st w = 0 := by unfold nb; rw [h]; simp
theorem nb_rep (n w : Nat) : nb (List.replicate n false) w = 0 := by
  unfold nb
  rw [List.getElem?_replicate]
  split <;> simp

/-- the program's way: which wants stand -/
def run1 (ms : List Nat) (c : Nat) : List Bool → List Int → Option (List Bool)
  | st, [] => some st
  | st, x :: l => if okx ms c x = true ∧ st[x.toNat]? = some false then run1 ms c (st.set x.toNat true) l else none
def runs (ms : List Nat) : Nat → List Bool → List (List Int) → Option (List Bool)
  | _, st, [] => some st
  | c, st, l :: p => (run1 ms c st l).bind fun st' => runs ms (c + 1) st' p
def feas (ms : List Nat) (p : List (List Int)) : Bool := ((runs ms 0 (List.replicate ms.length false) p).map (fun st => st.all id)).getD false
/-- the document's way: how often each stands -/
def cnt1 (ms : List Nat) (c : Nat) : List Nat → List Int → Option (List Nat)
  | ct, [] => some ct
  | ct, x :: l => if okx ms c x = true then cnt1 ms c (ct.set x.toNat (ct[x.toNat]?.getD 0 + 1)) l else none
def cnts (ms : List Nat) : Nat → List Nat → List (List Int) → Option (List Nat)
  | _, ct, [] => some ct
  | c, ct, l :: p => (cnt1 ms c ct l).bind fun ct' => cnts ms (c + 1) ct' p
def rfeas (ms : List Nat) (p : List (List Int)) : Bool := ((cnts ms 0 (List.replicate ms.length 0) p).map (fun ct => ct.all (· == 1))).getD false
/-- what both say -/
structure Fz (ms : List Nat) (p : List (List Int)) : Prop where
  ok : ∀ (c : Nat) l, p[c]? = some l → ∀ x ∈ l, okx ms c x = true
  once : ∀ w, w < ms.length → p.flatten.count (w : Int) = 1

theorem cast_nat {x : Int} {w : Nat} (hx : 0 ≤ x) : (x = (w : Int)) ↔ w = x.toNat := by omega
theorem run1_some {ms : List Nat} {c : Nat} : ∀ {l : List Int} {st st' : List Bool}, st.length = ms.length → run1 ms c st l = some st' →
    (∀ x ∈ l, okx ms c x = true) ∧ st'.length = ms.length ∧ ∀ w, w < ms.length → nb st' w = nb st w + l.count (w : Int)
  | [], st, st', hl, h => by
    simp only [run1, Option.some.injEq] at h
    subst h
    exact ⟨by simp, hl, by simp⟩
  | x :: l, st, st', hl, h => by
    rw [run1] at h
    split at h
    · rename_i hq
      obtain ⟨h1, h2, h3⟩ := run1_some (by rw [List.length_set]; exact hl) h
      obtain ⟨k1, k2, _⟩ := okx_iff.1 hq.1
      refine ⟨fun y hy => ?_, h2, fun w hw => ?_⟩
      · rcases List.mem_cons.1 hy with rfl | hy
        · exact hq.1
        · exact h1 y hy
      · rw [h3 w hw, nb_set (by omega) hq.2, List.count_cons]
        have : (x == (w : Int)) = decide (w = x.toNat) := by
          rw [Bool.eq_iff_iff]; simp [cast_nat k1]
        rw [this]
        simp only [decide_eq_true_eq]
        omega
    · cases h
theorem run1_ok {ms : List Nat} {c : Nat} : ∀ {l : List Int} {st : List Bool}, st.length = ms.length → (∀ x ∈ l, okx ms c x = true) → (∀ w, w < ms.length → nb st w + l.count (w : Int) ≤ 1) → ∃ st', run1 ms c st l = some st'
  | [], st, _, _, _ => ⟨st, rfl⟩
  | x :: l, st, hl, hk, hc => by
    obtain ⟨k1, k2, _⟩ := okx_iff.1 (hk x (by simp))
    have hcx := hc x.toNat (by omega)
    rw [Int.toNat_of_nonneg k1, List.count_cons_self] at hcx
    have hst : st[x.toNat]? = some false := by
      have hlt : x.toNat < st.length := by omega
      rw [List.getElem?_eq_getElem hlt]
      cases e : st[x.toNat]
      · rfl
      · exfalso
        have : nb st x.toNat = 1 := nb_true (by rw [List.getElem?_eq_getElem hlt, e])
        omega
    rw [run1, if_pos ⟨hk x (by simp), hst⟩]
    refine run1_ok (by rw [List.length_set]; exact hl) (fun y hy => hk y (by simp [hy])) fun w hw => ?_
    rw [nb_set (by omega) hst]
    have := hc w hw
    rw [List.count_cons] at this
    have e : (x == (w : Int)) = decide (w = x.toNat) := by
      rw [Bool.eq_iff_iff]; simp [cast_nat k1]
    rw [e] at this
    simp only [decide_eq_true_eq] at this
    omega
theorem runs_some {ms : List Nat} : ∀ {p : List (List Int)} {c : Nat} {st st' : List Bool}, st.length = ms.length → runs ms c st p = some st' →
    (∀ (d : Nat) l, p[d]? = some l → ∀ x ∈ l, okx ms (c + d) x = true) ∧ st'.length = ms.length ∧ ∀ w, w < ms.length → nb st' w = nb st w + p.flatten.count (w : Int)
  | [], c, st, st', hl, h => by
    simp only [runs, Option.some.injEq] at h
    subst h
    exact ⟨by simp, hl, by simp⟩
  | l :: p, c, st, st', hl, h => by
    rw [runs, Option.bind_eq_some_iff] at h
    obtain ⟨s1, h1, h2⟩ := h
    obtain ⟨a1, a2, a3⟩ := run1_some hl h1
    obtain ⟨b1, b2, b3⟩ := runs_some a2 h2
    refine ⟨fun d l' hd x hx => ?_, b2, fun w hw => ?_⟩
    · cases d with
      | zero => simp only [List.getElem?_cons_zero, Option.some.injEq] at hd; subst hd; exact a1 x hx
      | succ d =>
        rw [List.getElem?_cons_succ] at hd
        have := b1 d l' hd x hx
        rwa [show c + 1 + d = c + (d + 1) by omega] at this
    · rw [b3 w hw, a3 w hw, List.flatten_cons, List.count_append]; omega
theorem runs_ok {ms : List Nat} : ∀ {p : List (List Int)} {c : Nat} {st : List Bool}, st.length = ms.length → (∀ (d : Nat) l, p[d]? = some l → ∀ x ∈ l, okx ms (c + d) x = true) → (∀ w, w < ms.length → nb st w + p.flatten.count (w : Int) ≤ 1) → ∃ st', runs ms c st p = some st'
  | [], _, st, _, _, _ => ⟨st, rfl⟩
  | l :: p, c, st, hl, hk, hc => by
    obtain ⟨s1, h1⟩ := run1_ok (c := c) hl (hk 0 l rfl) (fun w hw => by have := hc w hw; rw [List.flatten_cons, List.count_append] at this; omega)
    obtain ⟨_, a2, a3⟩ := run1_some hl h1
    rw [runs, h1]
    refine runs_ok a2 (fun d l' hd x hx => ?_) (fun w hw => ?_)
    · have := hk (d + 1) l' hd x hx
      rwa [show c + (d + 1) = c + 1 + d by omega] at this
    · have := hc w hw
      rw [List.flatten_cons, List.count_append] at this
      rw [a3 w hw]; omega
theorem feas_iff {ms : List Nat} {p : List (List Int)} : feas ms p = true ↔ Fz ms p := by
  unfold feas
  constructor
  · intro h
    cases e : runs ms 0 (List.replicate ms.length false) p with
    | none => rw [e] at h; simp at h
    | some st =>
      rw [e] at h
      simp only [Option.map_some, Option.getD_some] at h
      obtain ⟨h1, h2, h3⟩ := runs_some (by simp) e
      refine ⟨fun c l hl x hx => by have := h1 c l hl x hx; rwa [Nat.zero_add] at this, fun w hw => ?_⟩
      have h4 := h3 w hw
      rw [nb_rep, Nat.zero_add] at h4
      rw [← h4]
      refine nb_true ?_
      rw [List.getElem?_eq_getElem (by omega)]
      have := List.all_eq_true.1 h (st[w]'(by omega)) (List.getElem_mem _)
      rw [id_eq] at this
      rw [this]
  · intro h
    obtain ⟨st, e⟩ := runs_ok (ms := ms) (c := 0) (st := List.replicate ms.length false) (by simp) (fun d l hd x hx => by rw [Nat.zero_add]; exact h.ok d l hd x hx) (fun w hw => by rw [nb_rep, h.once w hw]; omega)
    obtain ⟨_, h2, h3⟩ := runs_some (ms := ms) (by simp) e
    rw [e]
    simp only [Option.map_some, Option.getD_some]
    refine List.all_eq_true.2 fun b hb => ?_
    obtain ⟨i, hi, rfl⟩ := List.getElem_of_mem hb
    have := h3 i (by omega)
    rw [nb_rep, h.once i (by omega)] at this
    unfold nb at this
    split at this
    · rename_i hq
      rw [List.getElem?_eq_getElem hi] at hq
      simpa using hq
    · omega
theorem cnt1_len {ms : List Nat} {c : Nat} : ∀ {l : List Int} {ct ct' : List Nat}, ct.length = ms.length → cnt1 ms c ct l = some ct' →
    (∀ x ∈ l, okx ms c x = true) ∧ ct'.length = ms.length ∧ ∀ w, w < ms.length → ct'[w]?.getD 0 = ct[w]?.getD 0 + l.count (w : Int)
  | [], ct, ct', hl, h => by
    simp only [cnt1, Option.some.injEq] at h
    subst h
    exact ⟨by simp, hl, by simp⟩
  | x :: l, ct, ct', hl, h => by
    rw [cnt1] at h
    split at h
    · rename_i hq
      obtain ⟨h1, h2, h3⟩ := cnt1_len (by rw [List.length_set]; exact hl) h
      obtain ⟨k1, k2, _⟩ := okx_iff.1 hq
      refine ⟨fun y hy => ?_, h2, fun w hw => ?_⟩
      · rcases List.mem_cons.1 hy with rfl | hy
        · exact hq
        · exact h1 y hy
      · rw [h3 w hw, List.count_cons]
        have : (x == (w : Int)) = decide (w = x.toNat) := by
          rw [Bool.eq_iff_iff]; simp [cast_nat k1]
        rw [this]
        simp only [decide_eq_true_eq]
        by_cases e : w = x.toNat
        · rw [← e, List.getElem?_set_self (by omega)]; simp; omega
        · rw [List.getElem?_set_ne (Ne.symm e), if_neg e]; omega
    · cases h
theorem cnt1_ok {ms : List Nat} {c : Nat} : ∀ {l : List Int} {ct : List Nat}, (∀ x ∈ l, okx ms c x = true) → ∃ ct', cnt1 ms c ct l = some ct'
  | [], ct, _ => ⟨ct, rfl⟩
  | x :: l, ct, hk => by
    rw [cnt1, if_pos (hk x (by simp))]
    exact cnt1_ok fun y hy => hk y (by simp [hy])
theorem cnts_some {ms : List Nat} : ∀ {p : List (List Int)} {c : Nat} {ct ct' : List Nat}, ct.length = ms.length → cnts ms c ct p = some ct' →
    (∀ (d : Nat) l, p[d]? = some l → ∀ x ∈ l, okx ms (c + d) x = true) ∧ ct'.length = ms.length ∧ ∀ w, w < ms.length → ct'[w]?.getD 0 = ct[w]?.getD 0 + p.flatten.count (w : Int)
  | [], c, ct, ct', hl, h => by
    simp only [cnts, Option.some.injEq] at h
    subst h
    exact ⟨by simp, hl, by simp⟩
  | l :: p, c, ct, ct', hl, h => by
    rw [cnts, Option.bind_eq_some_iff] at h
    obtain ⟨s1, h1, h2⟩ := h
    obtain ⟨a1, a2, a3⟩ := cnt1_len hl h1
    obtain ⟨b1, b2, b3⟩ := cnts_some a2 h2
    refine ⟨fun d l' hd x hx => ?_, b2, fun w hw => ?_⟩
    · cases d with
      | zero => simp only [List.getElem?_cons_zero, Option.some.injEq] at hd; subst hd; exact a1 x hx
      | succ d =>
        rw [List.getElem?_cons_succ] at hd
        have := b1 d l' hd x hx
        rwa [show c + 1 + d = c + (d + 1) by omega] at this
    · rw [b3 w hw, a3 w hw, List.flatten_cons, List.count_append]; omega
theorem cnts_ok {ms : List Nat} : ∀ {p : List (List Int)} {c : Nat} {ct : List Nat}, (∀ (d : Nat) l, p[d]? = some l → ∀ x ∈ l, okx ms (c + d) x = true) → ∃ ct', cnts ms c ct p = some ct'
  | [], _, ct, _ => ⟨ct, rfl⟩
  | l :: p, c, ct, hk => by
    obtain ⟨s1, h1⟩ := cnt1_ok (c := c) (ct := ct) (hk 0 l rfl)
    rw [cnts, h1]
    refine cnts_ok fun d l' hd x hx => ?_
    have := hk (d + 1) l' hd x hx
    rwa [show c + (d + 1) = c + 1 + d by omega] at this
theorem rfeas_iff {ms : List Nat} {p : List (List Int)} : rfeas ms p = true ↔ Fz ms p := by
  unfold rfeas
  constructor
  · intro h
    cases e : cnts ms 0 (List.replicate ms.length 0) p with
    | none => rw [e] at h; simp at h
    | some ct =>
      rw [e] at h
      simp only [Option.map_some, Option.getD_some] at h
      obtain ⟨h1, h2, h3⟩ := cnts_some (by simp) e
      refine ⟨fun c l hl x hx => by have := h1 c l hl x hx; rwa [Nat.zero_add] at this, fun w hw => ?_⟩
      have h4 := h3 w hw
      rw [List.getElem?_eq_getElem (by omega), List.getElem?_replicate_of_lt hw, Option.getD_some, Option.getD_some, Nat.zero_add] at h4
      rw [← h4]
      simpa using List.all_eq_true.1 h (ct[w]'(by omega)) (List.getElem_mem _)
  · intro h
    obtain ⟨ct, e⟩ := cnts_ok (c := 0) (ct := List.replicate ms.length 0) (fun d l hd x hx => by rw [Nat.zero_add]; exact h.ok d l hd x hx)
    obtain ⟨_, h2, h3⟩ := cnts_some (by simp) e
    rw [e]
    simp only [Option.map_some, Option.getD_some]
    refine List.all_eq_true.2 fun b hb => ?_
    obtain ⟨i, hi, rfl⟩ := List.getElem_of_mem hb
    have := h3 i (by omega)
    rw [List.getElem?_eq_getElem hi, List.getElem?_replicate_of_lt (by omega), Option.getD_some, Option.getD_some, Nat.zero_add, h.once i (by omega)] at this
    simp [this]
theorem feas_rfeas (ms : List Nat) (p : List (List Int)) : feas ms p = rfeas ms p := by
  rw [Bool.eq_iff_iff, feas_iff, rfeas_iff]

/-- may the list of the car c end? (asked of the first k wants) -/
def meTo (ms : List Nat) (st : List Bool) (c k : Nat) : Bool := (List.range k).all fun w => !(st[w]? == some false && (ms[w]?.getD 0) / 2 ^ (c + 1) == 0)
theorem meTo_succ (ms : List Nat) (st : List Bool) (c k : Nat) : meTo ms st c (k + 1) = (meTo ms st c k && !(st[k]? == some false && (ms[k]?.getD 0) / 2 ^ (c + 1) == 0)) := by
  unfold meTo; rw [List.range_succ, List.all_append]; simp
theorem meTo_iff {ms : List Nat} {st : List Bool} {c k : Nat} : meTo ms st c k = true ↔ ∀ w, w < k → st[w]? = some false → (ms[w]?.getD 0) / 2 ^ (c + 1) ≠ 0 := by
  unfold meTo
  rw [List.all_eq_true]
  constructor
  · intro h w hw hs e
    have := h w (List.mem_range.2 hw)
    simp [hs] at this
    simp at e
    omega
  · intro h w hw
    have := h w (List.mem_range.1 hw)
    by_cases hs : st[w]? = some false
    · have := this hs
      simp [hs]
      simp at this
      omega
    · simp [hs]
theorem meTo_false {ms : List Nat} {st : List Bool} {c k j : Nat} (h : meTo ms st c k = false) (hk : k ≤ j) : meTo ms st c j = false := by
  cases e : meTo ms st c j
  · rfl
  · rw [meTo_iff.2 fun w hw => meTo_iff.1 e w (by omega)] at h; cases h
/-- a want at the end of a list -/
def add (ls : List (List Int)) (c : Nat) (x : Int) : List (List Int) := ls.set c (ls[c]?.getD [] ++ [x])
/-- the wants that the car c may take -/
def gen (n : Nat) (ms : List Nat) : Nat → Nat → List Bool → List (List Int) → List (List (List Int))
  | 0, _, _, ls => [ls]
  | k + 1, c, st, ls => if c = n then [ls] else
      ((List.range ms.length).flatMap fun w => if st[w]? = some false ∧ bt (ms[w]?.getD 0) c = true then gen n ms k c (st.set w true) (add ls c w) else []) ++
        (if meTo ms st c ms.length = true then gen n ms k (c + 1) st ls else [])
/-- how many don't stand -/
def lf (st : List Bool) : Nat := st.count false
theorem lf_set : ∀ {st : List Bool} {w : Nat}, st[w]? = some false → lf (st.set w true) + 1 = lf st
  | [], _, h => by simp at h
  | b :: st, 0, h => by simp at h; subst h; simp [lf]
  | b :: st, w + 1, h => by
    have := lf_set (st := st) (w := w) (by simpa using h)
    unfold lf at this ⊢
    rw [List.set_cons_succ, List.count_cons, List.count_cons]
    omega
/-- what holds of a plan on its way -/
structure Iv (n : Nat) (ms : List Nat) (c : Nat) (st : List Bool) (ls : List (List Int)) : Prop where
  ll : ls.length = n
  sl : st.length = ms.length
  cl : c ≤ n
  ok : ∀ (d : Nat) l, ls[d]? = some l → ∀ x ∈ l, okx ms d x = true
  cn : ∀ w, w < ms.length → ls.flatten.count (w : Int) = nb st w
  em : ∀ d, c < d → ls[d]?.getD [] = []
  en : c = n → ∀ b ∈ st, b = true
theorem count_add : ∀ {ls : List (List Int)} {c : Nat} {x y : Int}, c < ls.length → (add ls c x).flatten.count y = ls.flatten.count y + if x = y then 1 else 0
  | [], _, _, _, h => by simp at h
  | l :: ls, 0, x, y, _ => by
    simp only [add, List.getElem?_cons_zero, Option.getD_some, List.set_cons_zero, List.flatten_cons, List.count_append, List.count_singleton]
    by_cases e : x = y
    · subst e; simp; omega
    · simp [e, beq_eq_false_iff_ne.2 e]
  | l :: ls, c + 1, x, y, h => by
    have := count_add (ls := ls) (c := c) (x := x) (y := y) (by simpa using h)
    simp only [add, List.getElem?_cons_succ, List.set_cons_succ, List.flatten_cons, List.count_append] at this ⊢
    omega
section
variable {n : Nat} {ms : List Nat} {c : Nat} {st : List Bool} {ls : List (List Int)}
theorem Iv.take (h : Iv n ms c st ls) (hc : c ≠ n) {w : Nat} (hs : st[w]? = some false) (hb : bt (ms[w]?.getD 0) c = true) : Iv n ms c (st.set w true) (add ls c w) := by
  have hw : w < st.length := (List.getElem?_eq_some_iff.1 hs).1
  have hcl : c < ls.length := by have := h.cl; have := h.ll; omega
  refine ⟨by unfold add; rw [List.length_set]; exact h.ll, by rw [List.length_set]; exact h.sl, h.cl, fun d l hd x hx => ?_, fun v hv => ?_, fun d hd => ?_, fun e => absurd e hc⟩
  · unfold add at hd
    by_cases e : c = d
    · subst e
      rw [List.getElem?_set_self hcl] at hd
      simp only [Option.some.injEq] at hd
      subst hd
      rcases List.mem_append.1 hx with hx | hx
      · rw [List.getElem?_eq_getElem hcl] at hx
        exact h.ok c _ (List.getElem?_eq_getElem hcl) x hx
      · simp at hx
        subst hx
        rw [okx_iff]
        have := h.sl
        exact ⟨by omega, by omega, by simpa using hb⟩
    · rw [List.getElem?_set_ne e] at hd
      exact h.ok d l hd x hx
  · rw [count_add hcl, h.cn v hv, nb_set hw hs]
    congr 1
    by_cases e : v = w
    · subst e; simp
    · rw [if_neg e, if_neg (by omega)]
  · unfold add
    rw [List.getElem?_set_ne (by omega)]
    exact h.em d hd
theorem Iv.done (h : Iv n ms c st ls) (hc : c ≠ n) (hm : ∀ m ∈ ms, m < 2 ^ n) (he : meTo ms st c ms.length = true) : Iv n ms (c + 1) st ls := by
  refine ⟨h.ll, h.sl, by have := h.cl; omega, h.ok, h.cn, fun d hd => h.em d (by omega), fun e b hb => ?_⟩
  obtain ⟨i, hi, rfl⟩ := List.getElem_of_mem hb
  cases hq : st[i]
  · exfalso
    have hsl := h.sl
    have := meTo_iff.1 he i (by omega) (by rw [List.getElem?_eq_getElem hi, hq])
    rw [e, List.getElem?_eq_getElem (by omega), Option.getD_some] at this
    exact this (Nat.div_eq_of_lt (hm _ (List.getElem_mem _)))
  · rfl
theorem Iv.zero (n : Nat) (hn : 0 < n) (ms : List Nat) : Iv n ms 0 (List.replicate ms.length false) (List.replicate n []) := by
  refine ⟨by simp, by simp, by omega, fun d l hd x hx => ?_, fun w hw => ?_, fun d _ => ?_, fun e => by omega⟩
  · rw [List.getElem?_replicate] at hd
    split at hd
    · simp at hd; subst hd; simp at hx
    · cases hd
  · rw [nb_rep]
    simp
  · rw [List.getElem?_replicate]
    split <;> rfl
theorem gen_end {k : Nat} (hc : c = n) : gen n ms k c st ls = [ls] := by
  cases k with
  | zero => rfl
  | succ k => rw [gen, if_pos hc]
theorem gen_more {k : Nat} (hk : n - c + lf st ≤ k) (h : Iv n ms c st ls) (hc : c ≠ n) : ∃ j, k = j + 1 := by
  cases k with
  | zero => have := h.cl; omega
  | succ k => exact ⟨k, rfl⟩
theorem fuel_take {k w : Nat} (hk : n - c + lf st ≤ k + 1) (hs : st[w]? = some false) : n - c + lf (st.set w true) ≤ k := by
  have := lf_set hs; omega
theorem fuel_done {k : Nat} (hk : n - c + lf st ≤ k + 1) (h : Iv n ms c st ls) (hc : c ≠ n) : n - (c + 1) + lf st ≤ k := by
  have := h.cl; omega
end
theorem gen_fz {n : Nat} {ms : List Nat} (hm : ∀ m ∈ ms, m < 2 ^ n) : ∀ {k c : Nat} {st : List Bool} {ls : List (List Int)}, n - c + lf st ≤ k → Iv n ms c st ls → ∀ p ∈ gen n ms k c st ls, Fz ms p ∧ p.length = n := by
  intro k
  induction k with
  | zero =>
    intro c st ls hk h p hp
    have hc : c = n := by have := h.cl; omega
    rw [gen_end hc] at hp
    simp at hp
    subst hp
    refine ⟨⟨h.ok, fun w hw => ?_⟩, h.ll⟩
    rw [h.cn w hw]
    have hsl := h.sl
    exact nb_true (by rw [List.getElem?_eq_getElem (by omega), h.en hc _ (List.getElem_mem _)])
  | succ k ih =>
    intro c st ls hk h p hp
    by_cases hc : c = n
    · rw [gen_end hc] at hp
      simp at hp
      subst hp
      refine ⟨⟨h.ok, fun w hw => ?_⟩, h.ll⟩
      rw [h.cn w hw]
      have hsl := h.sl
      exact nb_true (by rw [List.getElem?_eq_getElem (by omega), h.en hc _ (List.getElem_mem _)])
    · rw [gen, if_neg hc] at hp
      rcases List.mem_append.1 hp with hp | hp
      · obtain ⟨w, _, hp⟩ := List.mem_flatMap.1 hp
        split at hp
        · rename_i hq
          exact ih (fuel_take hk hq.1) (h.take hc hq.1 hq.2) p hp
        · simp at hp
      · split at hp
        · rename_i hq
          exact ih (fuel_done hk h hc) (h.done hc hm hq) p hp
        · simp at hp

/-- the places of the lists from the car c on -/
def tt (c : Nat) : Nat → Nat := fun i => if c ≤ i then 1 else 0
theorem tt_dec (c : Nat) : dec (tt c) c = tt (c + 1) := by
  funext i
  unfold dec tt
  by_cases h : i = c
  · subst h; simp
  · rw [if_neg h]
    by_cases h2 : c ≤ i
    · rw [if_pos h2, if_pos (by omega)]
    · rw [if_neg h2, if_neg (by omega)]
theorem gen_len {n : Nat} {ms : List Nat} (hm : ∀ m ∈ ms, m < 2 ^ n) : ∀ {k c : Nat} {st : List Bool} {ls : List (List Int)}, n - c + lf st ≤ k → Iv n ms c st ls → (gen n ms k c st ls).length = kp n (tt c) ms st := by
  intro k
  induction k with
  | zero =>
    intro c st ls hk h
    have hc : c = n := by have := h.cl; omega
    rw [gen_end hc, kp_all (h.en hc)]; rfl
  | succ k ih =>
    intro c st ls hk h
    by_cases hc : c = n
    · rw [gen_end hc, kp_all (h.en hc)]; rfl
    · rw [gen, if_neg hc, List.length_append, len_flat, kp_first (c0 := c) (by have := h.cl; omega) h.sl.symm (by unfold tt; simp), tt_dec, Nat.add_comm]
      congr 1
      · split
        · rename_i hq
          exact ih (fuel_done hk h hc) (h.done hc hm hq)
        · rename_i hq
          rw [meTo_iff] at hq
          have : ∃ w, w < ms.length ∧ st[w]? = some false ∧ (ms[w]?.getD 0) / 2 ^ (c + 1) = 0 := by
            apply Classical.byContradiction
            intro hn
            exact hq fun w hw hs e => hn ⟨w, hw, hs, e⟩
          obtain ⟨w, hw, hs, e⟩ := this
          rw [List.getElem?_eq_getElem hw, Option.getD_some] at e
          exact (kp_none (List.getElem?_eq_getElem hw) hs fun d _ hb => by
            unfold tt
            by_cases hd : c + 1 ≤ d
            · rw [bt_high e hd] at hb; cases hb
            · rw [if_neg hd]).symm
      · refine sm_congr fun w _ => ?_
        split
        · rename_i hq
          exact ih (fuel_take hk hq.1) (h.take hc hq.1 hq.2)
        · rfl

/-- a plan as numbers -/
def wr (m : Nat) (p : List (List Int)) : List Int := p.flatMap fun l => l ++ [(m : Int)]
/-- which of two writings is less -/
def lx : List Int → List Int → Bool
  | [], [] => false
  | [], _ :: _ => true
  | _ :: _, [] => false
  | a :: x, b :: y => if a = b then lx x y else decide (a < b)
theorem lx_pre (q : List Int) {a b : Int} (h : a < b) (x y : List Int) : lx (q ++ a :: x) (q ++ b :: y) = true := by
  induction q with
  | nil => simp only [List.nil_append, lx]; rw [if_neg (by omega)]; simp [h]
  | cons d q ih => simp only [List.cons_append, lx, if_true]; exact ih
/-- how all that go on from here begin -/
def pf (m c : Nat) (ls : List (List Int)) : List Int := wr m (ls.take c) ++ ls[c]?.getD []
theorem pf_take {m c : Nat} {ls : List (List Int)} (h : c < ls.length) (x : Int) : pf m c (add ls c x) = pf m c ls ++ [x] := by
  unfold pf add
  rw [List.take_set_of_le (Nat.le_refl _), List.getElem?_set_self h, Option.getD_some, List.append_assoc]
theorem pf_done {m c : Nat} {ls : List (List Int)} (h : c < ls.length) (he : ls[c + 1]?.getD [] = []) : pf m (c + 1) ls = pf m c ls ++ [(m : Int)] := by
  unfold pf wr
  rw [he, List.append_nil, List.take_add_one, List.getElem?_eq_getElem h, List.flatMap_append]
  simp
theorem gen_pf {n : Nat} {ms : List Nat} (hm : ∀ m ∈ ms, m < 2 ^ n) : ∀ {k c : Nat} {st : List Bool} {ls : List (List Int)}, n - c + lf st ≤ k → Iv n ms c st ls → ∀ p ∈ gen n ms k c st ls, ∃ r, wr ms.length p = pf ms.length c ls ++ r := by
  intro k
  induction k with
  | zero =>
    intro c st ls hk h p hp
    have hc : c = n := by have := h.cl; omega
    rw [gen_end hc] at hp
    simp at hp
    subst hp
    refine ⟨[], ?_⟩
    have hl := h.ll
    unfold pf
    rw [List.take_of_length_le (by omega), List.getElem?_eq_none (by omega)]; simp
  | succ k ih =>
    intro c st ls hk h p hp
    by_cases hc : c = n
    · rw [gen_end hc] at hp
      simp at hp
      subst hp
      refine ⟨[], ?_⟩
      have hl := h.ll
      unfold pf
      rw [List.take_of_length_le (by omega), List.getElem?_eq_none (by omega)]; simp
    · have hcl : c < ls.length := by have := h.cl; have := h.ll; omega
      rw [gen, if_neg hc] at hp
      rcases List.mem_append.1 hp with hp | hp
      · obtain ⟨w, _, hp⟩ := List.mem_flatMap.1 hp
        split at hp
        · rename_i hq
          obtain ⟨r, hr⟩ := ih (fuel_take hk hq.1) (h.take hc hq.1 hq.2) p hp
          exact ⟨[(w : Int)] ++ r, by rw [hr, pf_take hcl, List.append_assoc]⟩
        · simp at hp
      · split at hp
        · rename_i hq
          obtain ⟨r, hr⟩ := ih (fuel_done hk h hc) (h.done hc hm hq) p hp
          exact ⟨[(ms.length : Int)] ++ r, by rw [hr, pf_done hcl (h.em _ (by omega)), List.append_assoc]⟩
        · simp at hp
theorem range_pw {R : Nat → Nat → Prop} (h : ∀ a b, a < b → R a b) (m : Nat) : (List.range m).Pairwise R := by
  induction m with
  | zero => simp
  | succ m ih =>
    rw [List.range_succ, List.pairwise_append]
    refine ⟨ih, by simp, fun a ha b hb => ?_⟩
    simp at ha hb
    subst hb
    exact h a b ha
theorem gen_sorted {n : Nat} {ms : List Nat} (hm : ∀ m ∈ ms, m < 2 ^ n) : ∀ {k c : Nat} {st : List Bool} {ls : List (List Int)}, n - c + lf st ≤ k → Iv n ms c st ls →
    (gen n ms k c st ls).Pairwise fun p q => lx (wr ms.length p) (wr ms.length q) = true := by
  intro k
  induction k with
  | zero =>
    intro c st ls hk h
    rw [gen_end (by have := h.cl; omega)]; simp
  | succ k ih =>
    intro c st ls hk h
    by_cases hc : c = n
    · rw [gen_end hc]; simp
    · have hcl : c < ls.length := by have := h.cl; have := h.ll; omega
      rw [gen, if_neg hc, List.pairwise_append, List.pairwise_flatMap]
      refine ⟨⟨fun w _ => ?_, range_pw (fun a b hab x hx y hy => ?_) _⟩, ?_, fun x hx y hy => ?_⟩
      · split
        · rename_i hq
          exact ih (fuel_take hk hq.1) (h.take hc hq.1 hq.2)
        · simp
      · split at hx
        · rename_i hq
          split at hy
          · rename_i hq'
            obtain ⟨r, hr⟩ := gen_pf hm (fuel_take hk hq.1) (h.take hc hq.1 hq.2) x hx
            obtain ⟨s, hs⟩ := gen_pf hm (fuel_take hk hq'.1) (h.take hc hq'.1 hq'.2) y hy
            rw [hr, hs, pf_take hcl, pf_take hcl, List.append_assoc, List.append_assoc]
            exact lx_pre _ (by omega) _ _
          · simp at hy
        · simp at hx
      · split
        · rename_i hq
          exact ih (fuel_done hk h hc) (h.done hc hm hq)
        · simp
      · obtain ⟨w, hw, hx⟩ := List.mem_flatMap.1 hx
        split at hx
        · rename_i hq
          split at hy
          · rename_i hq'
            obtain ⟨r, hr⟩ := gen_pf hm (fuel_take hk hq.1) (h.take hc hq.1 hq.2) x hx
            obtain ⟨s, hs⟩ := gen_pf hm (fuel_done hk h hc) (h.done hc hm hq') y hy
            rw [hr, hs, pf_take hcl, pf_done hcl (h.em _ (by omega)), List.append_assoc, List.append_assoc]
            exact lx_pre _ (by have := List.mem_range.1 hw; omega) _ _
          · simp at hy
        · simp at hx

end PM
end Go.Proofs.Ytkcppidmbojglaf
