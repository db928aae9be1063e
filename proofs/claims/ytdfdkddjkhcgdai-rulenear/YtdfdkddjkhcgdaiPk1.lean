/- Several texts in one, each with its own head. -/
import Derived.Test.YtdfdkddjkhcgdaiPk0
import Derived.Test.YtdfdkddjkhcgdaiRows
import Derived.WalkKit
import Derived.WalkSpells
import Derived.WalkLawsBesides
import Derived.RangeFuncBox
import Derived.Deep.MidRow
import Derived.Deep.Quiet
import Derived.Deep.QuietTactic
import Derived.Deep.RegionHeld3
import Derived.Deep.DrawnRows
/- What all plans cost at least that begin alike. No program is named here. -/
namespace Go.Proofs.Ytdfdkddjkhcgdai
namespace RM
open SM

/- sums over wants -/
def sr : Nat → (Nat → Int) → Int
  | 0, _ => 0
  | n + 1, f => sr n f + f n
theorem sr_le {n : Nat} {f g : Nat → Int} (h : ∀ i, i < n → f i ≤ g i) : sr n f ≤ sr n g := by
  induction n with
  | zero => exact Int.le_refl _
  | succ n ih => have := ih fun i hi => h i (by omega); have := h n (by omega); simp only [sr]; omega
theorem sr_congr {n : Nat} {f g : Nat → Int} (h : ∀ i, i < n → f i = g i) : sr n f = sr n g := by
  induction n with
  | zero => rfl
  | succ n ih => rw [sr, sr, ih fun i hi => h i (by omega), h n (by omega)]
theorem sr_add (n : Nat) (f g : Nat → Int) : sr n (fun i => f i + g i) = sr n f + sr n g := by
  induction n with
  | zero => rfl
  | succ n ih => simp only [sr, ih]; omega
theorem sr_zero (n : Nat) : sr n (fun _ => 0) = 0 := by
  induction n with
  | zero => rfl
  | succ n ih => rw [sr, ih]; rfl
theorem sr_one {n i : Nat} (hi : i < n) (a : Int) : sr n (fun w => if w = i then a else 0) = a := by
  induction n with
  | zero => omega
  | succ n ih =>
    rw [sr]
    by_cases e : n = i
    · subst e
      rw [if_pos rfl, sr_congr (g := fun _ => 0) (fun w hw => if_neg (by omega)), sr_zero]; omega
    · rw [if_neg e, ih (by omega)]; omega
/-- a sum over a list, each once -/
theorem sum_sr {n : Nat} (T : Nat → Int) : ∀ {L : List Int}, L.Nodup → (∀ x ∈ L, 0 ≤ x ∧ x < n) → (L.map fun x => T x.toNat).sum = sr n (fun w => if (w : Int) ∈ L then T w else 0)
  | [], _, _ => by simp [sr_zero]
  | x :: L, hn, hr => by
    obtain ⟨h1, h2⟩ := List.nodup_cons.1 hn
    have hx := hr x (by simp)
    rw [List.map_cons, List.sum_cons, sum_sr T h2 fun y hy => hr y (by simp [hy])]
    have e : sr n (fun w => if (w : Int) ∈ x :: L then T w else 0) = sr n (fun w => (if w = x.toNat then T x.toNat else 0) + (if (w : Int) ∈ L then T w else 0)) := sr_congr fun w _ => by
      by_cases hw : w = x.toNat
      · subst hw
        have e1 : ((x.toNat : Nat) : Int) = x := by omega
        rw [if_pos rfl, e1, if_pos (by simp), if_neg h1]; omega
      · rw [if_neg hw, Int.zero_add]
        by_cases hm : (w : Int) ∈ L
        · rw [if_pos hm, if_pos (by simp [hm])]
        · rw [if_neg hm, if_neg (by simp [hm]; omega)]
    rw [e, sr_add, sr_one (by omega)]

/- the least of some numbers -/
def lo : List Int → Option Int
  | [] => none
  | a :: l => some (l.foldl min a)
theorem fold_min : ∀ {l : List Int} {a : Int}, (l.foldl min a = a ∨ l.foldl min a ∈ l) ∧ l.foldl min a ≤ a ∧ ∀ t ∈ l, l.foldl min a ≤ t
  | [], a => ⟨.inl rfl, Int.le_refl _, fun t h => by simp at h⟩
  | b :: l, a => by
    have ⟨h1, h2, h3⟩ := fold_min (l := l) (a := min a b)
    show (l.foldl min (min a b) = a ∨ l.foldl min (min a b) ∈ b :: l) ∧ l.foldl min (min a b) ≤ a ∧ ∀ t ∈ b :: l, l.foldl min (min a b) ≤ t
    refine ⟨?_, by omega, fun t ht => ?_⟩
    · rcases h1 with h1 | h1
      · rw [h1]
        by_cases e : a ≤ b
        · exact .inl (by omega)
        · exact .inr (by rw [show min a b = b by omega]; simp)
      · exact .inr (by simp [h1])
    · rcases List.mem_cons.1 ht with ht | ht
      · rw [ht]; omega
      · exact h3 t ht
theorem lo_none {l : List Int} : lo l = none ↔ l = [] := by cases l <;> simp [lo]
theorem lo_some {l : List Int} {m : Int} : lo l = some m ↔ m ∈ l ∧ ∀ t ∈ l, m ≤ t := by
  cases l with
  | nil => simp [lo]
  | cons a l =>
    have ⟨h1, h2, h3⟩ := fold_min (l := l) (a := a)
    constructor
    · intro h
      simp only [lo, Option.some.injEq] at h
      subst h
      refine ⟨?_, fun t ht => ?_⟩
      · rcases h1 with h1 | h1
        · rw [h1]; simp
        · exact List.mem_cons_of_mem _ h1
      · rcases List.mem_cons.1 ht with ht | ht
        · rw [ht]; exact h2
        · exact h3 t ht
    · rintro ⟨k1, k2⟩
      simp only [lo, Option.some.injEq]
      have k3 : l.foldl min a ≤ m := by
        rcases List.mem_cons.1 k1 with e | e
        · rw [e]; exact h2
        · exact h3 m e
      have k4 : m ≤ l.foldl min a := by
        rcases h1 with e | e
        · rw [e]; exact k2 a (by simp)
        · exact k2 _ (List.mem_cons_of_mem _ e)
      omega
/-- the least one, or 0 -/
def low (l : List Int) : Int := (lo l).getD 0
theorem low_mem {l : List Int} (h : l ≠ []) : low l ∈ l ∧ ∀ t ∈ l, low l ≤ t := by
  cases e : lo l with
  | none => exact absurd (lo_none.1 e) h
  | some m =>
    have := lo_some.1 e
    unfold low
    rw [e]
    exact this

/-- when the cars from c on would be at a floor, as far as they may -/
def ops (s : St) (ws : List (Int × Int)) (f : Int) (m : Nat) : Nat → List (Int × Int) → List (List Int) → List Int
  | c, r :: cs, l :: b => if PM.bt m c = true then ar s (go s (bg r) (l.map (wf ws))) f :: ops s ws f m (c + 1) cs b else ops s ws f m (c + 1) cs b
  | _, _, _ => []
section
variable {s : St} {ws : List (Int × Int)} {f : Int} {m : Nat}
theorem ops_mem {t : Int} : ∀ {cs : List (Int × Int)} {b : List (List Int)} {c : Nat}, t ∈ ops s ws f m c cs b ↔ ∃ (i : Nat) (r : Int × Int) (l : List Int), cs[i]? = some r ∧ b[i]? = some l ∧ PM.bt m (c + i) = true ∧ t = ar s (go s (bg r) (l.map (wf ws))) f
  | [], _, _ => by simp [ops]
  | _ :: _, [], _ => by simp [ops]
  | r0 :: cs, l0 :: b, c => by
    have ih := ops_mem (t := t) (cs := cs) (b := b) (c := c + 1)
    have key : (∃ (i : Nat) (r : Int × Int) (l : List Int), (r0 :: cs)[i]? = some r ∧ (l0 :: b)[i]? = some l ∧ PM.bt m (c + i) = true ∧ t = ar s (go s (bg r) (l.map (wf ws))) f) ↔
        (PM.bt m c = true ∧ t = ar s (go s (bg r0) (l0.map (wf ws))) f) ∨ t ∈ ops s ws f m (c + 1) cs b := by
      rw [ih]
      constructor
      · rintro ⟨i, r, l, h1, h2, h3, h4⟩
        cases i with
        | zero =>
          simp at h1 h2
          subst h1 h2
          exact .inl ⟨h3, h4⟩
        | succ i => exact .inr ⟨i, r, l, by simpa using h1, by simpa using h2, by rw [show c + 1 + i = c + (i + 1) by omega]; exact h3, h4⟩
      · rintro (⟨h1, h2⟩ | ⟨i, r, l, h1, h2, h3, h4⟩)
        · exact ⟨0, r0, l0, rfl, rfl, h1, h2⟩
        · exact ⟨i + 1, r, l, by simpa using h1, by simpa using h2, by rw [show c + (i + 1) = c + 1 + i by omega]; exact h3, h4⟩
    rw [key]
    show t ∈ (if PM.bt m c = true then _ else _) ↔ _
    by_cases hb : PM.bt m c = true
    · rw [if_pos hb, List.mem_cons]
      simp [hb]
    · rw [if_neg hb]
      simp [hb]
/-- the same, told by the cars' own places -/
theorem ops_at {t : Int} {cs : List (Int × Int)} {b : List (List Int)} {k : Nat} : t ∈ ops s ws f m k (cs.drop k) (b.drop k) ↔ ∃ (c : Nat) (r : Int × Int) (l : List Int), k ≤ c ∧ cs[c]? = some r ∧ b[c]? = some l ∧ PM.bt m c = true ∧ t = ar s (go s (bg r) (l.map (wf ws))) f := by
  rw [ops_mem]
  constructor
  · rintro ⟨i, r, l, h1, h2, h3, h4⟩
    rw [List.getElem?_drop] at h1 h2
    exact ⟨k + i, r, l, by omega, h1, h2, h3, h4⟩
  · rintro ⟨c, r, l, h0, h1, h2, h3, h4⟩
    refine ⟨c - k, r, l, ?_, ?_, ?_, h4⟩
    · rw [List.getElem?_drop, show k + (c - k) = c by omega]; exact h1
    · rw [List.getElem?_drop, show k + (c - k) = c by omega]; exact h2
    · rw [show k + (c - k) = c by omega]; exact h3
end

/-- b, from the car k on, begins p -/
structure Beg (k : Nat) (b p : List (List Int)) : Prop where
  len : b.length = p.length
  lt : k < p.length
  pre : ∀ (c : Nat) l m, b[c]? = some l → p[c]? = some m → ∃ l2, m = l ++ l2 ∧ (c < k → l2 = []) ∧ (k < c → l = [])
theorem flat_sub : ∀ {b p : List (List Int)}, b.length = p.length → (∀ (c : Nat) l m, b[c]? = some l → p[c]? = some m → l.Sublist m) → b.flatten.Sublist p.flatten
  | [], [], _, _ => List.Sublist.refl _
  | [], _ :: _, h, _ => by simp at h
  | _ :: _, [], h, _ => by simp at h
  | l :: b, m :: p, h, hs => by
    rw [List.flatten_cons, List.flatten_cons]
    exact (hs 0 l m rfl rfl).append (flat_sub (by simpa using h) fun c x y hx hy => hs (c + 1) x y (by simpa using hx) (by simpa using hy))
section
variable {s : St} {ws cs : List (Int × Int)} {ms : List Nat} {b b' p : List (List Int)} {k k' : Nat}
theorem Beg.sub (h : Beg k b p) : b.flatten.Sublist p.flatten := flat_sub h.len fun c l m hl hm => by
  obtain ⟨l2, e, _⟩ := h.pre c l m hl hm
  rw [e]; exact List.sublist_append_left _ _
theorem Beg.prs (h : Beg k b p) {x t : Int} (hx : (x, t) ∈ prs s ws cs b) : (x, t) ∈ RM.prs s ws cs p := by
  obtain ⟨c, i, r, l, h1, h2, h3, h4⟩ := prs_where hx
  have hc : c < p.length := by have := (List.getElem?_eq_some_iff.1 h2).1; have := h.len; omega
  obtain ⟨l2, e, _⟩ := h.pre c l _ h2 (List.getElem?_eq_getElem hc)
  have hi := (List.getElem?_eq_some_iff.1 h3).1
  have := prs_at (s := s) (ws := ws) (cs := cs) (p := p) (i := i) (w := x) h1 (List.getElem?_eq_getElem hc) (by rw [e, List.getElem?_append_left hi]; exact h3)
  rwa [e, List.take_append_of_le_length (by omega), ← h4] at this
/-- a want's time in a plan -/
def tw (s : St) (ws cs : List (Int × Int)) (p : List (List Int)) (w : Nat) : Int := ((wts s ws cs p)[w]?).getD 0
theorem tw_get (hf : PM.Fz ms p) (hm : ms.length = ws.length) (hl : cs.length = p.length) {x t : Int} (hx : (x, t) ∈ prs s ws cs p) : tw s ws cs p x.toNat = t := by
  unfold tw
  rw [wts_get hf hm hl hx]; rfl
/-- what a beginning's own wants cost -/
theorem beg_cst (hf : PM.Fz ms p) (hm : ms.length = ws.length) (hl : cs.length = p.length) (h : Beg k b p) : cst s ws cs b = sr ws.length (fun w => if (w : Int) ∈ b.flatten then tw s ws cs p w else 0) := by
  rw [← sum_sr (tw s ws cs p) ((fz_nodup hf).sublist h.sub) fun x hx => by have := fz_range hf x (h.sub.subset hx); omega]
  unfold cst
  rw [← prs_fst (s := s) (ws := ws) (cs := cs) (p := b) (by rw [hl, h.len]), List.map_map]
  congr 1
  refine List.map_congr_left fun x hx => ?_
  exact (tw_get hf hm hl (h.prs (s := s) (ws := ws) (cs := cs) (x := x.1) (t := x.2) hx)).symm
/-- the times that a want that is left may have -/
def opt (s : St) (ws cs : List (Int × Int)) (ms : List Nat) (k : Nat) (b : List (List Int)) (w : Nat) : List Int := ops s ws (wf ws (w : Int)) (ms[w]?.getD 0) k (cs.drop k) (b.drop k)
/-- the least cost of a beginning, if each want that is left has a car -/
def lst (s : St) (ws cs : List (Int × Int)) (ms : List Nat) (k : Nat) (b : List (List Int)) : Int := cst s ws cs b + sr ws.length (fun w => if (w : Int) ∈ b.flatten then 0 else low (opt s ws cs ms k b w))
theorem lst_eq (hf : PM.Fz ms p) (hm : ms.length = ws.length) (hl : cs.length = p.length) (h : Beg k b p) : lst s ws cs ms k b = sr ws.length (fun w => if (w : Int) ∈ b.flatten then tw s ws cs p w else low (opt s ws cs ms k b w)) := by
  unfold lst
  rw [beg_cst hf hm hl h, ← sr_add]
  refine sr_congr fun w _ => ?_
  by_cases hw : (w : Int) ∈ b.flatten
  · simp only [if_pos hw]; omega
  · simp only [if_neg hw]; omega
/-- a want that is left is served no earlier than it might be -/
theorem opt_le (z : Rz s ws cs) (hf : PM.Fz ms p) (hm : ms.length = ws.length) (hl : cs.length = p.length) (h : Beg k b p) {w : Nat} (hw : w < ws.length) (hb : ¬ (w : Int) ∈ b.flatten) :
    ∃ t ∈ opt s ws cs ms k b w, t ≤ tw s ws cs p w := by
  obtain ⟨t, ht⟩ := prs_all (s := s) (ws := ws) hf hl (w := w) (by omega)
  have e1 := tw_get hf hm hl ht
  rw [Int.toNat_natCast] at e1
  obtain ⟨c, i, r, m, h1, h2, h3, h4⟩ := prs_where ht
  have hc : c < b.length := by have := (List.getElem?_eq_some_iff.1 h2).1; have := h.len; omega
  have hbc : b[c]? = some b[c] := List.getElem?_eq_getElem hc
  obtain ⟨l2, e, p1, p2⟩ := h.pre c _ m hbc h2
  have hi : b[c].length ≤ i := by
    rcases Nat.lt_or_ge i b[c].length with hi | hi
    · exfalso
      apply hb
      refine List.mem_flatten.2 ⟨b[c], List.getElem_mem hc, ?_⟩
      rw [e, List.getElem?_append_left hi] at h3
      exact List.mem_of_getElem? h3
    · exact hi
  have hk : k ≤ c := by
    rcases Nat.lt_or_ge c k with hk | hk
    · exfalso
      rw [e, p1 hk, List.append_nil] at h3
      have := (List.getElem?_eq_some_iff.1 h3).1
      omega
    · exact hk
  have hbt : PM.bt (ms[w]?.getD 0) c = true := by
    have := (PM.okx_iff.1 (hf.ok c m h2 (w : Int) (List.mem_of_getElem? h3))).2.2
    rwa [Int.toNat_natCast] at this
  refine ⟨_, ops_at.2 ⟨c, r, b[c], hk, h1, hbc, hbt, rfl⟩, ?_⟩
  rw [e1, h4]
  have hall : ∀ x ∈ m, 0 ≤ x ∧ x < ws.length := fun x hx => by have := fz_range hf x (List.mem_flatten.2 ⟨m, List.mem_of_getElem? h2, hx⟩); omega
  have e2 : m.take i = b[c] ++ l2.take (i - b[c].length) := by rw [e, List.take_append, List.take_of_length_le hi]
  rw [e2, List.map_append, go_append]
  have hb1 : ∀ x ∈ b[c], 0 ≤ x ∧ x < ws.length := fun x hx => hall x (by rw [e]; simp [hx])
  have hb2 : ∀ x ∈ l2.take (i - b[c].length), 0 ≤ x ∧ x < ws.length := fun x hx => hall x (by rw [e]; exact List.mem_append_right _ (List.mem_of_mem_take hx))
  have hin := z.wf (x := (w : Int)) (by omega) (by omega)
  exact le_go z.rt (go_ok z.rt (z.cr r (List.mem_of_getElem? h1)) (z.inn hb1)) (z.inn hb2) _ hin.1 hin.2
theorem opt_ne (z : Rz s ws cs) (hf : PM.Fz ms p) (hm : ms.length = ws.length) (hl : cs.length = p.length) (h : Beg k b p) {w : Nat} (hw : w < ws.length) (hb : ¬ (w : Int) ∈ b.flatten) : opt s ws cs ms k b w ≠ [] := fun e => by
  obtain ⟨t, ht, _⟩ := opt_le z hf hm hl h hw hb
  rw [e] at ht
  simp at ht
/-- a beginning that goes on costs no less -/
theorem lst_rises (z : Rz s ws cs) (hf : PM.Fz ms p) (hm : ms.length = ws.length) (hl : cs.length = p.length) (h : Beg k b p) (h' : Beg k' b' p) (hk : k ≤ k') (hb : ∀ (c : Nat) l l', b[c]? = some l → b'[c]? = some l' → ∃ l2, l' = l ++ l2) :
    lst s ws cs ms k b ≤ lst s ws cs ms k' b' := by
  rw [lst_eq hf hm hl h, lst_eq hf hm hl h']
  refine sr_le fun w hw => ?_
  have hsub : ∀ x ∈ b.flatten, x ∈ b'.flatten := fun x hx => by
    obtain ⟨l, hml, hxl⟩ := List.mem_flatten.1 hx
    obtain ⟨c, hc⟩ := List.getElem?_of_mem hml
    have hc' : c < b'.length := by have := (List.getElem?_eq_some_iff.1 hc).1; have := h.len; have := h'.len; omega
    obtain ⟨l2, e⟩ := hb c l _ hc (List.getElem?_eq_getElem hc')
    exact List.mem_flatten.2 ⟨b'[c], List.getElem_mem hc', by rw [e]; simp [hxl]⟩
  by_cases h1 : (w : Int) ∈ b.flatten
  · rw [if_pos h1, if_pos (hsub _ h1)]; exact Int.le_refl _
  · rw [if_neg h1]
    have hlow := low_mem (opt_ne z hf hm hl h hw h1)
    by_cases h2 : (w : Int) ∈ b'.flatten
    · rw [if_pos h2]
      obtain ⟨t, ht, hle⟩ := opt_le z hf hm hl h hw h1
      exact Int.le_trans (hlow.2 t ht) hle
    · rw [if_neg h2]
      have hlow' := low_mem (opt_ne z hf hm hl h' hw h2)
      obtain ⟨c, r, l', g0, g1, g2, g3, g4⟩ := ops_at.1 hlow'.1
      have hc : c < b.length := by have := (List.getElem?_eq_some_iff.1 g2).1; have := h.len; have := h'.len; omega
      have hbc : b[c]? = some b[c] := List.getElem?_eq_getElem hc
      obtain ⟨l2, e⟩ := hb c _ l' hbc g2
      have hmem : ar s (go s (bg r) (b[c].map (wf ws))) (wf ws (w : Int)) ∈ opt s ws cs ms k b w := ops_at.2 ⟨c, r, b[c], by omega, g1, hbc, g3, rfl⟩
      refine Int.le_trans (hlow.2 _ hmem) ?_
      rw [g4, e, List.map_append, go_append]
      have hall : ∀ x ∈ l', 0 ≤ x ∧ x < ws.length := fun x hx => by have := fz_range hf x (h'.sub.subset (List.mem_flatten.2 ⟨l', List.mem_of_getElem? g2, hx⟩)); omega
      have hb1 : ∀ x ∈ b[c], 0 ≤ x ∧ x < ws.length := fun x hx => hall x (by rw [e]; simp [hx])
      have hb2 : ∀ x ∈ l2, 0 ≤ x ∧ x < ws.length := fun x hx => hall x (by rw [e]; simp [hx])
      have hin := z.wf (x := (w : Int)) (by omega) (by omega)
      exact le_go z.rt (go_ok z.rt (z.cr r (List.mem_of_getElem? g1)) (z.inn hb1)) (z.inn hb2) _ hin.1 hin.2
/-- the whole plan -/
theorem lst_whole (hf : PM.Fz ms p) (hm : ms.length = ws.length) (k : Nat) : lst s ws cs ms k p = cst s ws cs p := by
  unfold lst
  rw [sr_congr (g := fun _ => 0) fun w hw => if_pos ?_, sr_zero, Int.add_zero]
  exact List.count_pos_iff.1 (by rw [hf.once w (by omega)]; omega)
theorem Beg.whole (hk : k < p.length) (hlast : k + 1 = p.length) : Beg k p p := ⟨rfl, hk, fun c l m hl hm => by
  rw [hl] at hm
  cases hm
  exact ⟨[], by simp, fun _ => rfl, fun h => by have := (List.getElem?_eq_some_iff.1 hl).1; omega⟩⟩
/-- no plan that begins so costs less -/
theorem lst_least (z : Rz s ws cs) (hf : PM.Fz ms p) (hm : ms.length = ws.length) (hl : cs.length = p.length) (h : Beg k b p) : lst s ws cs ms k b ≤ cst s ws cs p := by
  have hp := h.lt
  rw [← lst_whole (s := s) (cs := cs) hf hm (p.length - 1)]
  refine lst_rises z hf hm hl h (Beg.whole (by omega) (by omega)) (by omega) fun c l l' h1 h2 => ?_
  obtain ⟨l2, e, _⟩ := h.pre c l l' h1 h2
  exact ⟨l2, e⟩
end

end RM
end Go.Proofs.Ytdfdkddjkhcgdai

/- A site in memory: a block of thirteen cells, kept whole. -/
namespace Go.Proofs.Ytdfdkddjkhcgdai
open Go.RowKit

theorem Hid.intro' {p : Prop} (h : p) : Hid p := h
/-- the cells of a site -/
def sv (s : St) : List Value := [.int .i64 s.fl, .int .i64 s.ca, .int .i64 s.sta, .int .i64 s.ste, .int .i64 s.sto, .int .i64 s.opn, .int .i64 s.wai, .int .i64 s.clo, .int .i64 s.nud, .int .i64 s.age, .int .i64 s.sil, .int .i64 s.bud, .int .i64 s.per]
theorem sv_length (s : St) : (sv s).length = 13 := rfl
theorem info23 : (Try.prog.info? 32).map (·.size) = some 13 := by kernel_rfl

/-- a block that holds a site -/
def SB (W : World) (b : Nat) (s : St) : Prop := W.heap[b]? = some (.cells (sv s).toArray 32 (0, 0))
theorem SB.lt {W : World} {b : Nat} {s : St} (h : SB W b s) : b < W.heap.size := (Array.getElem?_eq_some_iff.1 h).1
theorem SB.cell {W : World} {b : Nat} {s : St} (h : SB W b s) (i : Nat) : W.cell? ⟨b, i, none⟩ = (sv s)[i]? := by
  simp [World.cell?, show W.heap[b]? = _ from h]
theorem SB.range {W : World} {b : Nat} {s : St} (h : SB W b s) : W.rangeAt b 0 (sv s) := fun j v hv => by
  rw [Nat.zero_add, h.cell, hv]
theorem SB.below {W W' : World} {B b : Nat} {s : St} (h : SB W b s) (hb : Below B W W') (hlt : b < B) : SB W' b s := (hb.block b hlt).trans h
theorem SB.below' {W W' : World} {b : Nat} {s : St} (h : SB W b s) (hb : Below W.heap.size W W') : SB W' b s := h.below hb h.lt
theorem SB.alloc {W : World} {b : Nat} {s : St} (h : SB W b s) (o : Obj) : SB (W.alloc o) b s := (Below.heap_alloc W o b h.lt).trans h
theorem SB.drew {W : World} {b : Nat} {s : St} (h : SB W b s) : SB W.drew b s := h
theorem SB.other {W : World} {b b' : Nat} {s : St} (h : SB W b s) (hne : b ≠ b') (i : Nat) (v : Value) : SB (W.setCell ⟨b', i, none⟩ v) b s :=
  (Below.heap_setCell W ⟨b', i, none⟩ v b hne).trans h
theorem SB.new (W : World) (s : St) : SB (W.alloc (.cells (sv s).toArray 32)) W.heap.size s := World.alloc_heap_new W _

theorem load23 (w : World) (b : Nat) (s : St) (h : w.rangeAt b 0 (sv s)) :
    (Instr.loadAt 32 (.pointer (some ⟨b, 0, none⟩))).run Try.prog w = .ok (.agg (sv s).toArray) w :=
  run_loadAt_mid (P := Try.prog) w b 0 32 (sv s) _ h Try.underlying32 rfl (by rw [sv_length]; exact info23)
theorem wpList_load23 {ops : Array Oper} {rest : List Oper} {op : Oper} {a : Act} {w : World} {Q : Exit → Act → World → Prop} (hgd : op.guard = none) (x : Operand) (ho : op.op = .load 32 x)
    (b : Nat) (s : St) (hx : a.eval x = .pointer (some ⟨b, 0, none⟩)) (hr : SB w b s)
    (h : wpList Try.prog ops Q rest (a.put op.dst (.agg (sv s).toArray)) w) : wpList Try.prog ops Q (op :: rest) a w :=
  wpList_plain hgd fun _ hK => by
    unfold Oper.wp execOp
    simp only [ho, Sem.run_bind, Sem.run_pure, Result.andThen_ok, hx, load23 w b s hr.range]
    exact hK _ _ h

theorem wpList_load23g {ops : Array Oper} {rest : List Oper} {op : Oper} {a : Act} {w : World} {Q : Exit → Act → World → Prop} (hgd : Region.wanted op (yielded ops a.tmps) = true) (x : Operand) (ho : op.op = .load 32 x)
    (b : Nat) (s : St) (hx : a.eval x = .pointer (some ⟨b, 0, none⟩)) (hr : SB w b s)
    (h : wpList Try.prog ops Q rest (a.put op.dst (.agg (sv s).toArray)) w) : wpList Try.prog ops Q (op :: rest) a w :=
  wpList_step fun _ hK => by
    rw [if_pos hgd]
    unfold Oper.wp execOp
    simp only [ho, Sem.run_bind, Sem.run_pure, Result.andThen_ok, hx, load23 w b s hr.range]
    exact hK _ _ h

/- one operation of a region that draws its order and only reads, in a class of worlds -/
theorem wpQuiet_val {P : Program} {ops : Array Oper} {C : World → Prop} {Q : Act → Prop} {rest : List Oper} {o : Oper} {a : Act} (v : Value) (hw : Region.wanted o (yielded ops a.tmps) = true)
    (hrun : ∀ w, C w → (execOp a.eval o).run P w = .ok (.value v) w) (h : wpQuiet P ops C Q rest (a.put o.dst v)) : wpQuiet P ops C Q (o :: rest) a := by
  unfold wpQuiet
  rw [if_pos hw]
  exact ⟨v, fun w hw' => by unfold Oper.quietAt; rw [hrun w hw']; exact ⟨rfl, rfl⟩, h⟩
theorem wpQuiet_call {P : Program} {ops : Array Oper} {C : World → Prop} {Q : Act → Prop} {rest : List Oper} {o : Oper} {a : Act} (f : FuncId) (args : Array Value) (v : Value) (hw : Region.wanted o (yielded ops a.tmps) = true)
    (hrun : ∀ w, C w → (execOp a.eval o).run P w = .ok (.enter f args) w) (hc : ∀ w, C w → Calls P f args w fun e w'' => e = .returned v ∧ C w'')
    (h : wpQuiet P ops C Q rest (a.put o.dst v)) : wpQuiet P ops C Q (o :: rest) a := by
  unfold wpQuiet
  rw [if_pos hw]
  exact ⟨v, fun w hw' => by unfold Oper.quietAt; rw [hrun w hw']; exact ⟨rfl, hc w hw'⟩, h⟩
theorem wpQuiet_skip {P : Program} {ops : Array Oper} {C : World → Prop} {Q : Act → Prop} {rest : List Oper} {o : Oper} {a : Act} (hw : Region.wanted o (yielded ops a.tmps) = false)
    (h : wpQuiet P ops C Q rest (a.put o.dst undef)) : wpQuiet P ops C Q (o :: rest) a := by
  unfold wpQuiet
  rw [if_neg (by rw [hw]; simp)]
  exact h
theorem wpQuiet_load23 {ops : Array Oper} {C : World → Prop} {Q : Act → Prop} {rest : List Oper} {o : Oper} {a : Act} (x : Operand) (b : Nat) (s : St) (hw : Region.wanted o (yielded ops a.tmps) = true)
    (ho : o.op = .load 32 x) (hx : a.eval x = .pointer (some ⟨b, 0, none⟩)) (hr : ∀ w, C w → SB w b s)
    (h : wpQuiet Try.prog ops C Q rest (a.put o.dst (.agg (sv s).toArray))) : wpQuiet Try.prog ops C Q (o :: rest) a :=
  wpQuiet_val _ hw (fun w hw' => by unfold execOp; simp only [ho, hx, Sem.run_bind, Sem.run_pure, Result.andThen_ok, load23 w b s (hr w hw').range]) h
theorem load3 (w : World) (b o : Nat) (v : Value) (h : w.cell? ⟨b, o, none⟩ = some v) : (Instr.loadAt 3 (.pointer (some ⟨b, o, none⟩))).run Try.prog w = .ok v w := by simp [go_sem, h]
theorem wpQuiet_load3 {ops : Array Oper} {C : World → Prop} {Q : Act → Prop} {rest : List Oper} {o : Oper} {a : Act} (x : Operand) (b k : Nat) (v : Value) (hw : Region.wanted o (yielded ops a.tmps) = true)
    (ho : o.op = .load 3 x) (hx : a.eval x = .pointer (some ⟨b, k, none⟩)) (hr : ∀ w, C w → w.cell? ⟨b, k, none⟩ = some v)
    (h : wpQuiet Try.prog ops C Q rest (a.put o.dst v)) : wpQuiet Try.prog ops C Q (o :: rest) a :=
  wpQuiet_val _ hw (fun w hw' => by unfold execOp; simp only [ho, hx, Sem.run_bind, Sem.run_pure, Result.andThen_ok, load3 w b k v (hr w hw')]) h
theorem below_class {W0 w w' : World} (h : Below W0.heap.size W0 w) (h' : Below w.heap.size w w') : Below W0.heap.size W0 w' := h.trans (h'.mono h.size)

end Go.Proofs.Ytdfdkddjkhcgdai

/- The walks of package num and of the document's answer for it: each function's contract. -/
namespace Go.Proofs.Ytdfdkddjkhcgdai
open Go.RowKit


set_option maxHeartbeats 400000 in
theorem within_any (a : Int) (w : World) :
    Calls Try.prog 39 #[.int .i64 a] w fun e w' => e = .returned (.int .i64 (NumM.cl a)) ∧ w' = w := by
  go_enter Try.func39, Try.ntmps39
  go_wp2
  all_goals
    go_ret
    exact ⟨ret_int (by unfold NumM.cl; repeat' split
                       all_goals omega), rfl⟩

set_option maxHeartbeats 400000 in
theorem size_any (a : Int) (w : World) (h1 : -1099511627776 ≤ a) (h2 : a ≤ 1099511627776) :
    Calls Try.prog 40 #[.int .i64 a] w fun e w' => e = .returned (.int .i64 (NumM.sz a)) ∧ w' = w := by
  go_enter Try.func40, Try.ntmps40
  go_wp2
  all_goals
    go_ret
    exact ⟨ret_int (by unfold NumM.sz; split <;> omega), rfl⟩

set_option maxHeartbeats 400000 in
theorem add_any (a b : Int) (w : World) :
    Calls Try.prog 38 #[.int .i64 a, .int .i64 b] w fun e w' => e = .returned (.int .i64 (NumM.cl (NumM.cl a + NumM.cl b))) ∧ w' = w := by
  obtain ⟨a1, a2⟩ := NumM.cl_bd a
  obtain ⟨b1, b2⟩ := NumM.cl_bd b
  go_enter Try.func38, Try.ntmps38
  go_wp2_with (go_at_call 39; refine (within_any _ _).mono ?_; rintro e w' ⟨rfl, rfl⟩)
  go_ret
  exact ⟨rfl, rfl⟩

set_option maxHeartbeats 1000000 in
theorem mul_any (a b : Int) (w : World) :
    Calls Try.prog 34 #[.int .i64 a, .int .i64 b] w fun e w' => e = .returned (.int .i64 (NumM.cl (NumM.cl a * NumM.cl b))) ∧ w' = w := by
  obtain ⟨a1, a2⟩ := NumM.cl_bd a
  obtain ⟨b1, b2⟩ := NumM.cl_bd b
  have s1 := NumM.sz_nonneg (NumM.cl a)
  have s2 := NumM.sz_nonneg (NumM.cl b)
  by_cases h0 : NumM.cl a = 0
  · have hb : (NumM.cl a != 0) = false := by simp [h0]
    have H0 : Hid (NumM.cl a = 0) := h0
    have hm := NumM.mul_small (b := NumM.cl b) (Or.inl h0)
    clear h0
    go_enter Try.func34, Try.ntmps34
    go_wp2_with (first | (go_at_call 39; refine (within_any _ _).mono ?_; rintro e w' ⟨rfl, rfl⟩) | (go_at_call 40; refine (size_any _ _ (by omega) (by omega)).mono ?_; rintro e w' ⟨rfl, rfl⟩))
    go_ret
    exact ⟨ret_int (by rw [NumM.cl_in hm.1 hm.2]), rfl⟩
  · have hb : (NumM.cl a != 0) = true := by simp [h0]
    have s3 := NumM.sz_pos h0
    by_cases hq : NumM.sz (NumM.cl b) ≤ 1099511627776 / NumM.sz (NumM.cl a)
    · have hm := NumM.mul_small (Or.inr hq)
      clear h0
      go_enter Try.func34, Try.ntmps34
      go_wp2_with (first | (go_at_call 39; refine (within_any _ _).mono ?_; rintro e w' ⟨rfl, rfl⟩) | (go_at_call 40; refine (size_any _ _ (by omega) (by omega)).mono ?_; rintro e w' ⟨rfl, rfl⟩))
      go_ret
      exact ⟨ret_int (by rw [NumM.cl_in hm.1 hm.2]), rfl⟩
    · have hq' : 1099511627776 / NumM.sz (NumM.cl a) < NumM.sz (NumM.cl b) := by omega
      have HM : Hid (NumM.cl (NumM.cl a * NumM.cl b) = if (NumM.cl a < 0) ≠ (NumM.cl b < 0) then -1099511627776 else 1099511627776) := NumM.cl_mul_pass h0 hq'
      clear h0 hq
      rcases Bool.eq_false_or_eq_true (decide (NumM.cl a < 0)) with xa | xa <;> rcases Bool.eq_false_or_eq_true (decide (NumM.cl b < 0)) with xb | xb
      all_goals
        go_enter Try.func34, Try.ntmps34
        go_wp2_with (first | (go_at_call 39; refine (within_any _ _).mono ?_; rintro e w' ⟨rfl, rfl⟩) | (go_at_call 40; refine (size_any _ _ (by omega) (by omega)).mono ?_; rintro e w' ⟨rfl, rfl⟩))
        go_ret
        exact ⟨ret_int (by rw [HM.out]; simp only [decide_eq_true_eq, decide_eq_false_iff_not] at xa xb; simp [xa, xb]), rfl⟩

theorem take_snoc_i (zs : List Int) (k : Nat) (h : k < zs.length) : zs.take (k + 1) = zs.take k ++ [zs[k]?.getD 0] := by
  rw [List.take_succ_eq_append_getElem h]; simp [h]
theorem sum_take (zs : List Int) (k : Nat) (h : k < zs.length) : NumM.cl (NumM.cl (NumM.sumL (zs.take k)) + NumM.cl (zs[k]?.getD 0)) = NumM.sumL (zs.take (k + 1)) := by
  rw [take_snoc_i zs k h, NumM.sumL_snoc]

set_option maxHeartbeats 400000 in
theorem sum_any (b off len cap : Nat) (zs : List Int) (w : World) (hl : len ≤ zs.length) (hm : len ≤ 1000000)
    (hc : ∀ i, i < len → w.cell? ⟨b, off + i, none⟩ = some (.int .i64 (zs[i]?.getD 0))) :
    Calls Try.prog 33 #[.slice (some ⟨b, off, none⟩) len cap] w fun e w' => e = .returned (.int .i64 (NumM.sumL (zs.take len))) ∧ w' = w := by
  go_enter Try.func33, Try.ntmps33
  go_wp2
  go_loop [3, 8] (fun t i => ∃ k : Nat, k ≤ len ∧ i = .int .i64 k ∧ t = .int .i64 (NumM.sumL (zs.take k))) (fun _ i => len - (intOf i).toNat)
  case atStart => exact ⟨0, Nat.zero_le _, rfl, rfl⟩
  case round =>
    obtain ⟨k, hk, rfl, rfl⟩ := hrel
    by_cases hlt : k < len
    · have hcell := hc k hlt
      have HS : Hid (NumM.cl (NumM.cl (NumM.sumL (zs.take k)) + NumM.cl (zs[k]?.getD 0)) = NumM.sumL (zs.take (k + 1))) := sum_take zs k (by omega)
      clear hc
      go_wp2_with (go_at_call 38; refine (add_any _ _ _).mono ?_; rintro e w' ⟨rfl, rfl⟩)
      go_round
      case rel => exact ⟨k + 1, by omega, by go_num, by rw [HS.out]⟩
      case measure => simp [intOf]; omega
    · obtain rfl : k = len := by omega
      clear hc
      go_wp2
      go_ret
      exact ⟨rfl, rfl⟩

end Go.Proofs.Ytdfdkddjkhcgdai

/- Travel, as the program reckons it. -/
namespace Go.Proofs.Ytdfdkddjkhcgdai
open Go.RowKit

theorem new_drew (W : World) (o : Obj) (n : Nat) (hn : W.heap.size = n) : ((W.alloc o).drew).heap[n]? = some o := by subst hn; exact World.alloc_heap_new W o
theorem new_at (W : World) (o : Obj) (n : Nat) (hn : W.heap.size = n) : (W.alloc o).heap[n]? = some o := by subst hn; exact World.alloc_heap_new W o
/-- the sum of a row that is a block -/
theorem sum_row (W : World) (n : Nat) (zs : List Int) (L C : Nat) (hl : zs.length = L) (hm : L ≤ 100) (hn : W.heap[n]? = some (.cells (zs.map fun z => Value.int .i64 z).toArray 3)) :
    Calls Try.prog 33 #[.slice (some ⟨n, 0, none⟩) L C] W fun e w' => e = .returned (.int .i64 (NumM.sumL zs)) ∧ w' = W := by
  subst hl
  have := sum_any n 0 zs.length C zs W (Nat.le_refl _) (by omega) (fun i hi => by
    rw [Nat.zero_add]
    have e : W.cell? ⟨n, i, none⟩ = (zs.map fun z => Value.int .i64 z).toArray[i]? := by unfold World.cell?; rw [hn]; rfl
    rw [e]
    simp [hi])
  rwa [List.take_length] at this
theorem sum3 (W : World) (n : Nat) (x y z : Int) (C : Nat) (hn : W.heap[n]? = some (.cells #[.int .i64 x, .int .i64 y, .int .i64 z] 3)) :
    Calls Try.prog 33 #[.slice (some ⟨n, 0, none⟩) 3 C] W fun e w' => e = .returned (.int .i64 (NumM.sumL [x, y, z])) ∧ w' = W :=
  sum_row W n [x, y, z] 3 C rfl (by omega) hn
theorem sum4 (W : World) (n : Nat) (x y z u : Int) (C : Nat) (hn : W.heap[n]? = some (.cells #[.int .i64 x, .int .i64 y, .int .i64 z, .int .i64 u] 3)) :
    Calls Try.prog 33 #[.slice (some ⟨n, 0, none⟩) 4 C] W fun e w' => e = .returned (.int .i64 (NumM.sumL [x, y, z, u])) ∧ w' = W :=
  sum_row W n [x, y, z, u] 4 C rfl (by omega) hn

set_option maxHeartbeats 1000000 in
theorem travel_out (s : St) (a b : Int) (w : World) (HO : Hid (a < 0 ∨ b < 0 ∨ s.fl ≤ a ∨ s.fl ≤ b ∨ a = b)) :
    Calls Try.prog 28 #[.agg (sv s).toArray, .int .i64 a, .int .i64 b] w fun e w' => e = .returned (.int .i64 (SM.trav s a b)) ∧ Below w.heap.size w w' := by
  have n0 := SB.new w s
  have hc0 : (w.alloc (.cells (sv s).toArray 32)).cell? ⟨w.heap.size, 0, none⟩ = some (.int .i64 s.fl) := n0.cell 0
  have HB : Hid (Below w.heap.size w (w.alloc (.cells (sv s).toArray 32))) := Hid.intro' ((Below.refl _ w).alloc (Nat.le_refl _) _)
  have HT := Hid.intro' (SM.trav_out HO.out)
  clear n0
  go_enter Try.func28, Try.ntmps28
  go_wp2
  all_goals first
    | (go_ret; exact ⟨ret_int HT.out.symm, HB.out⟩)
    | (exfalso; have := HO.out; simp only [beq_eq_false_iff_ne] at *; omega)
set_option maxHeartbeats 1000000 in
theorem travel_up (s : St) (a b : Int) (w : World) (h2 : b < s.fl) (f1 : s.fl ≤ 64) (h1 : 0 ≤ a) (hlt : a < b) (HS : Hid (NumM.sumL [s.sta, NumM.cl (NumM.cl s.ste * NumM.cl (b - a)), s.sto] = SM.trav s a b)) :
    Calls Try.prog 28 #[.agg (sv s).toArray, .int .i64 a, .int .i64 b] w fun e w' => e = .returned (.int .i64 (SM.trav s a b)) ∧ Below w.heap.size w w' := by
  have n0 := SB.new w s
  have hc0 : (w.alloc (.cells (sv s).toArray 32)).cell? ⟨w.heap.size, 0, none⟩ = some (.int .i64 s.fl) := n0.cell 0
  have hc2 : (w.alloc (.cells (sv s).toArray 32)).cell? ⟨w.heap.size, 2, none⟩ = some (.int .i64 s.sta) := n0.cell 2
  have hc3 : (w.alloc (.cells (sv s).toArray 32)).cell? ⟨w.heap.size, 3, none⟩ = some (.int .i64 s.ste) := n0.cell 3
  have hc4 : (w.alloc (.cells (sv s).toArray 32)).cell? ⟨w.heap.size, 4, none⟩ = some (.int .i64 s.sto) := n0.cell 4
  have HB : Hid (Below w.heap.size w (w.alloc (.cells (sv s).toArray 32))) := Hid.intro' ((Below.refl _ w).alloc (Nat.le_refl _) _)
  have hx : (a == b) = false := by simp; omega
  clear n0
  go_enter Try.func28, Try.ntmps28
  go_wp2
  go_region_held3 (fun w' => w'.cell? ⟨w.heap.size, 2, none⟩ = some (.int .i64 s.sta) ∧ w'.cell? ⟨w.heap.size, 3, none⟩ = some (.int .i64 s.ste) ∧ w'.cell? ⟨w.heap.size, 4, none⟩ = some (.int .i64 s.sto)) (go_keep) (first | (go_at_call 34; refine (mul_any _ _ _).mono ?_; rintro e w' ⟨rfl, rfl⟩) | (go_at_call 33; refine (sum3 _ _ _ _ _ _ (new_drew _ _ _ (World.size_alloc _ _))).mono ?_; rintro e w' ⟨rfl, rfl⟩))
  go_wp2
  go_ret
  exact ⟨ret_int (by rw [IntWalk.i64_in _ ⟨by omega, by omega⟩]; exact HS.out), (HB.out.alloc (by simp) _).drew⟩
set_option maxHeartbeats 1000000 in
theorem travel_down (s : St) (a b : Int) (w : World) (h2 : a < s.fl) (f1 : s.fl ≤ 64) (h1 : 0 ≤ b) (hlt : b < a) (HS : Hid (NumM.sumL [s.sta, NumM.cl (NumM.cl s.ste * NumM.cl (a - b)), s.sto] = SM.trav s a b)) :
    Calls Try.prog 28 #[.agg (sv s).toArray, .int .i64 a, .int .i64 b] w fun e w' => e = .returned (.int .i64 (SM.trav s a b)) ∧ Below w.heap.size w w' := by
  have n0 := SB.new w s
  have hc0 : (w.alloc (.cells (sv s).toArray 32)).cell? ⟨w.heap.size, 0, none⟩ = some (.int .i64 s.fl) := n0.cell 0
  have hc2 : (w.alloc (.cells (sv s).toArray 32)).cell? ⟨w.heap.size, 2, none⟩ = some (.int .i64 s.sta) := n0.cell 2
  have hc3 : (w.alloc (.cells (sv s).toArray 32)).cell? ⟨w.heap.size, 3, none⟩ = some (.int .i64 s.ste) := n0.cell 3
  have hc4 : (w.alloc (.cells (sv s).toArray 32)).cell? ⟨w.heap.size, 4, none⟩ = some (.int .i64 s.sto) := n0.cell 4
  have HB : Hid (Below w.heap.size w (w.alloc (.cells (sv s).toArray 32))) := Hid.intro' ((Below.refl _ w).alloc (Nat.le_refl _) _)
  have hx : (b == a) = false := by simp; omega
  clear n0
  go_enter Try.func28, Try.ntmps28
  go_wp2
  go_region_held3 (fun w' => w'.cell? ⟨w.heap.size, 2, none⟩ = some (.int .i64 s.sta) ∧ w'.cell? ⟨w.heap.size, 3, none⟩ = some (.int .i64 s.ste) ∧ w'.cell? ⟨w.heap.size, 4, none⟩ = some (.int .i64 s.sto)) (go_keep) (first | (go_at_call 34; refine (mul_any _ _ _).mono ?_; rintro e w' ⟨rfl, rfl⟩) | (go_at_call 33; refine (sum3 _ _ _ _ _ _ (new_drew _ _ _ (World.size_alloc _ _))).mono ?_; rintro e w' ⟨rfl, rfl⟩))
  go_wp2
  go_ret
  exact ⟨ret_int (by rw [IntWalk.i64_in _ ⟨by omega, by omega⟩]; exact HS.out), (HB.out.alloc (by simp) _).drew⟩
theorem travel_any (s : St) (r : SM.Rt s) (a b : Int) (w : World) :
    Calls Try.prog 28 #[.agg (sv s).toArray, .int .i64 a, .int .i64 b] w fun e w' => e = .returned (.int .i64 (SM.trav s a b)) ∧ Below w.heap.size w w' := by
  by_cases hout : a < 0 ∨ b < 0 ∨ s.fl ≤ a ∨ s.fl ≤ b ∨ a = b
  · exact travel_out s a b w hout
  · have f1 := r.fl2
    have hne : ¬ a = b := by omega
    have HS := SM.travel_sum r (a := a) (b := b) (by omega) (by omega) (by omega) (by omega) hne
    unfold SM.dist at HS
    rcases Int.lt_or_lt_of_ne hne with hlt | hlt
    · rw [if_pos hlt] at HS
      exact travel_up s a b w (by omega) f1 (by omega) hlt HS
    · rw [if_neg (by omega)] at HS
      exact travel_down s a b w (by omega) f1 (by omega) hlt HS

end Go.Proofs.Ytdfdkddjkhcgdai

/- Travel, service and bound, as the document's answer reckons them. -/
namespace Go.Proofs.Ytdfdkddjkhcgdai
open Go.RowKit

theorem SB.c0 {W : World} {b : Nat} {s : St} (h : SB W b s) : W.cell? ⟨b, 0, none⟩ = some (.int .i64 s.fl) := h.cell 0
theorem SB.c2 {W : World} {b : Nat} {s : St} (h : SB W b s) : W.cell? ⟨b, 2, none⟩ = some (.int .i64 s.sta) := h.cell 2
theorem SB.c3 {W : World} {b : Nat} {s : St} (h : SB W b s) : W.cell? ⟨b, 3, none⟩ = some (.int .i64 s.ste) := h.cell 3
theorem SB.c4 {W : World} {b : Nat} {s : St} (h : SB W b s) : W.cell? ⟨b, 4, none⟩ = some (.int .i64 s.sto) := h.cell 4
theorem SB.c5 {W : World} {b : Nat} {s : St} (h : SB W b s) : W.cell? ⟨b, 5, none⟩ = some (.int .i64 s.opn) := h.cell 5
theorem SB.c6 {W : World} {b : Nat} {s : St} (h : SB W b s) : W.cell? ⟨b, 6, none⟩ = some (.int .i64 s.wai) := h.cell 6
theorem SB.c7 {W : World} {b : Nat} {s : St} (h : SB W b s) : W.cell? ⟨b, 7, none⟩ = some (.int .i64 s.clo) := h.cell 7
theorem SB.c8 {W : World} {b : Nat} {s : St} (h : SB W b s) : W.cell? ⟨b, 8, none⟩ = some (.int .i64 s.nud) := h.cell 8
theorem SB.c9 {W : World} {b : Nat} {s : St} (h : SB W b s) : W.cell? ⟨b, 9, none⟩ = some (.int .i64 s.age) := h.cell 9
theorem SB.c12 {W : World} {b : Nat} {s : St} (h : SB W b s) : W.cell? ⟨b, 12, none⟩ = some (.int .i64 s.per) := h.cell 12

set_option maxHeartbeats 1000000 in
theorem rtravel_out (s : St) (a b : Int) (w : World) (HO : Hid (a < 0 ∨ b < 0 ∨ s.fl ≤ a ∨ s.fl ≤ b ∨ a = b)) :
    Calls Try.prog 12 #[.agg (sv s).toArray, .int .i64 a, .int .i64 b] w fun e w' => e = .returned (.int .i64 (SM.trav s a b)) ∧ Below w.heap.size w w' := by
  have n0 := SB.new w s
  have hc0 := n0.c0
  have hc2 := n0.c2
  have hc4 := n0.c4
  have HB : Hid (Below w.heap.size w (w.alloc (.cells (sv s).toArray 32))) := Hid.intro' ((Below.refl _ w).alloc (Nat.le_refl _) _)
  have HT := Hid.intro' (SM.trav_out HO.out)
  clear n0
  go_enter Try.func12, Try.ntmps12
  go_wp2
  all_goals first
    | (go_ret; exact ⟨ret_int HT.out.symm, HB.out⟩)
    | (exfalso; have := HO.out; simp only [beq_eq_false_iff_ne] at *; omega)

theorem SM.step_one (c x a : Int) : c * (x + 1 - a) = c * (x - a) + c := by
  rw [show x + 1 - a = (x - a) + 1 by omega, Int.mul_add, Int.mul_one]
theorem SM.step_less (c x a : Int) : c * (a - (x - 1)) = c * (a - x) + c := by
  rw [show a - (x - 1) = (a - x) + 1 by omega, Int.mul_add, Int.mul_one]

set_option maxHeartbeats 1000000 in
theorem rtravel_up (s : St) (r : SM.Rt s) (a b : Int) (w : World) (h2 : b < s.fl) (h1 : 0 ≤ a) (hlt : a < b) :
    Calls Try.prog 12 #[.agg (sv s).toArray, .int .i64 a, .int .i64 b] w fun e w' => e = .returned (.int .i64 (SM.trav s a b)) ∧ Below w.heap.size w w' := by
  have n0 := SB.new w s
  have hc0 := n0.c0
  have hc2 := n0.c2
  have hc3 := n0.c3
  have hc4 := n0.c4
  have HB : Hid (Below w.heap.size w (w.alloc (.cells (sv s).toArray 32))) := Hid.intro' ((Below.refl _ w).alloc (Nat.le_refl _) _)
  have f1 := r.fl2
  have a1 := r.sta1
  have a2 := r.sta2
  have a3 := r.sto1
  have a4 := r.sto2
  have a5 := r.ste1
  have a6 := r.ste2
  have hx : (a == b) = false := by simp; omega
  have HT := Hid.intro' (SM.trav_in (s := s) h1 (show 0 ≤ b by omega) (show a < s.fl by omega) h2 (show a ≠ b by omega))
  have HD := Hid.intro' (show SM.dist a b = b - a by unfold SM.dist; rw [if_pos hlt])
  have R := Hid.intro' r
  clear n0 r
  go_enter Try.func12, Try.ntmps12
  go_wp2
  go_loop [1, 7] (fun t u => ∃ x m : Int, a ≤ x ∧ x ≤ b ∧ 0 ≤ m ∧ m ≤ 63000 ∧ t = .int .i64 x ∧ u = .int .i64 (s.sta + s.sto + m) ∧ Hid (m = s.ste * (x - a))) (fun t _ => (b - intOf t).toNat)
  case atStart => exact ⟨a, 0, by omega, by omega, by omega, by omega, rfl, by go_num, Hid.intro' (by simp)⟩
  case round =>
    obtain ⟨x, m, hx1, hx2, hm1, hm2, rfl, rfl, HM⟩ := hrel
    by_cases hl : x < b
    · have HM2 := Hid.intro' (show m + s.ste = s.ste * (x + 1 - a) by rw [SM.step_one, ← HM.out])
      have hb := SM.step_bd R.out (d := x + 1 - a) (by omega) (by omega)
      rw [← HM2.out] at hb
      obtain ⟨hb1, hb2⟩ := hb
      go_wp2
      go_round
      case rel => exact ⟨x + 1, m + s.ste, by omega, by omega, by omega, by omega, by go_num, by go_num, HM2⟩
      case measure => simp [intOf]; omega
    · obtain rfl : x = b := by omega
      go_wp2
      go_loop [1, 7] (fun t u => t = .int .i64 x ∧ u = .int .i64 (s.sta + s.sto + m)) (fun _ _ => 0)
      case atStart => exact ⟨rfl, rfl⟩
      case round =>
        obtain ⟨rfl, rfl⟩ := hrel
        go_wp2
        go_ret
        exact ⟨ret_int (by rw [HT.out, HD.out, ← HM.out]; omega), HB.out⟩
set_option maxHeartbeats 1000000 in
theorem rtravel_down (s : St) (r : SM.Rt s) (a b : Int) (w : World) (h2 : a < s.fl) (h1 : 0 ≤ b) (hlt : b < a) :
    Calls Try.prog 12 #[.agg (sv s).toArray, .int .i64 a, .int .i64 b] w fun e w' => e = .returned (.int .i64 (SM.trav s a b)) ∧ Below w.heap.size w w' := by
  have n0 := SB.new w s
  have hc0 := n0.c0
  have hc2 := n0.c2
  have hc3 := n0.c3
  have hc4 := n0.c4
  have HB : Hid (Below w.heap.size w (w.alloc (.cells (sv s).toArray 32))) := Hid.intro' ((Below.refl _ w).alloc (Nat.le_refl _) _)
  have f1 := r.fl2
  have a1 := r.sta1
  have a2 := r.sta2
  have a3 := r.sto1
  have a4 := r.sto2
  have a5 := r.ste1
  have a6 := r.ste2
  have hx : (a == b) = false := by simp; omega
  have HT := Hid.intro' (SM.trav_in (s := s) (show 0 ≤ a by omega) h1 h2 (show b < s.fl by omega) (show a ≠ b by omega))
  have HD := Hid.intro' (show SM.dist a b = a - b by unfold SM.dist; rw [if_neg (by omega)])
  have R := Hid.intro' r
  clear n0 r
  go_enter Try.func12, Try.ntmps12
  go_wp2
  go_loop [1, 7] (fun t u => t = .int .i64 a ∧ u = .int .i64 (s.sta + s.sto)) (fun _ _ => 0)
  case atStart => exact ⟨rfl, rfl⟩
  case round =>
    obtain ⟨rfl, rfl⟩ := hrel
    go_wp2
    go_loop [1, 7] (fun t u => ∃ x m : Int, b ≤ x ∧ x ≤ a ∧ 0 ≤ m ∧ m ≤ 63000 ∧ t = .int .i64 x ∧ u = .int .i64 (s.sta + s.sto + m) ∧ Hid (m = s.ste * (a - x))) (fun t _ => (intOf t - b).toNat)
    case atStart => exact ⟨a, 0, by omega, by omega, by omega, by omega, rfl, by go_num, Hid.intro' (by simp)⟩
    case round =>
      obtain ⟨x, m, hx1, hx2, hm1, hm2, rfl, rfl, HM⟩ := hrel
      by_cases hl : b < x
      · have HM2 := Hid.intro' (show m + s.ste = s.ste * (a - (x - 1)) by rw [SM.step_less, ← HM.out])
        have hb := SM.step_bd R.out (d := a - (x - 1)) (by omega) (by omega)
        rw [← HM2.out] at hb
        obtain ⟨hb1, hb2⟩ := hb
        go_wp2
        go_round
        case rel => exact ⟨x - 1, m + s.ste, by omega, by omega, by omega, by omega, by go_num, by go_num, HM2⟩
        case measure => simp [intOf]; omega
      · obtain rfl : x = b := by omega
        go_wp2
        go_ret
        exact ⟨ret_int (by rw [HT.out, HD.out, ← HM.out]; omega), HB.out⟩
theorem rtravel_any (s : St) (r : SM.Rt s) (a b : Int) (w : World) :
    Calls Try.prog 12 #[.agg (sv s).toArray, .int .i64 a, .int .i64 b] w fun e w' => e = .returned (.int .i64 (SM.trav s a b)) ∧ Below w.heap.size w w' := by
  by_cases hout : a < 0 ∨ b < 0 ∨ s.fl ≤ a ∨ s.fl ≤ b ∨ a = b
  · exact rtravel_out s a b w hout
  · have hne : ¬ a = b := by omega
    rcases Int.lt_or_lt_of_ne hne with hlt | hlt
    · exact rtravel_up s r a b w (by omega) (by omega) hlt
    · exact rtravel_down s r a b w (by omega) (by omega) hlt

end Go.Proofs.Ytdfdkddjkhcgdai
