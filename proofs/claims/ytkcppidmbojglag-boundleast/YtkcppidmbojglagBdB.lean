/- The least cost of a beginning, as the document reckons it: mathematics. -/
import Derived.Test.YtkcppidmbojglagBdA
namespace Go.Proofs.Ytkcppidmbojglag
open Go.RowKit

namespace RM
section
variable {s : St} {ws cs : List (Int × Int)} {b : List (List Int)} {f : Int} {m k : Nat}
/-- the times of the cars from k on, ahead of c -/
def opk (s : St) (ws cs : List (Int × Int)) (b : List (List Int)) (f : Int) (m k c : Nat) : List Int := ops s ws f m k ((cs.take c).drop k) ((b.take c).drop k)
theorem ops_append : ∀ {cs cs' : List (Int × Int)} {b b' : List (List Int)} {k : Nat}, cs.length = b.length → ops s ws f m k (cs ++ cs') (b ++ b') = ops s ws f m k cs b ++ ops s ws f m (k + cs.length) cs' b'
  | [], cs', [], b', k, _ => by simp [ops]
  | [], _, _ :: _, _, _, h => by simp at h
  | _ :: _, _, [], _, _, h => by simp at h
  | r :: cs, cs', l :: b, b', k, h => by
    have ih := ops_append (cs := cs) (cs' := cs') (b := b) (b' := b') (k := k + 1) (by simpa using h)
    rw [List.cons_append, List.cons_append, ops, ops, ih, List.length_cons, show k + 1 + cs.length = k + (cs.length + 1) by omega]
    split <;> simp
theorem opk_start : opk s ws cs b f m k k = [] := by
  unfold opk
  rw [List.drop_of_length_le (by simp; omega)]
  unfold ops
  rfl
theorem opk_succ {c : Nat} {r : Int × Int} {l : List Int} (hl : cs.length = b.length) (hk : k ≤ c) (hc : cs[c]? = some r) (hb : b[c]? = some l) : opk s ws cs b f m k (c + 1) = opk s ws cs b f m k c ++ if PM.bt m c = true then [ar s (go s (bg r) (l.map (wf ws))) f] else [] := by
  unfold opk
  have hcl := (List.getElem?_eq_some_iff.1 hc).1
  have e1 : (cs.take (c + 1)).drop k = (cs.take c).drop k ++ [r] := by rw [List.take_add_one, hc, Option.toList_some, List.drop_append_of_le_length (by rw [List.length_take]; omega)]
  have e2 : (b.take (c + 1)).drop k = (b.take c).drop k ++ [l] := by rw [List.take_add_one, hb, Option.toList_some, List.drop_append_of_le_length (by rw [List.length_take]; omega)]
  rw [e1, e2, ops_append (by rw [List.length_drop, List.length_drop, List.length_take, List.length_take, hl])]
  congr 1
  rw [List.length_drop, List.length_take, show k + (min c cs.length - k) = c by omega]
  unfold ops
  split <;> simp [ops]
theorem opk_end {c : Nat} (h1 : cs.length ≤ c) (h2 : b.length ≤ c) : opk s ws cs b f m k c = ops s ws f m k (cs.drop k) (b.drop k) := by
  unfold opk
  rw [List.take_of_length_le h1, List.take_of_length_le h2]
end
/-- the least one, or -1 -/
def lm (l : List Int) : Int := (lo l).getD (-1)
theorem lo_snoc (l : List Int) (t : Int) : lo (l ++ [t]) = some (match lo l with | none => t | some a => min a t) := by
  cases l with
  | nil => rfl
  | cons a l => simp [lo, List.foldl_append]
theorem lm_snoc {l : List Int} {t : Int} (h : ∀ x ∈ l, 0 ≤ x) : lm (l ++ [t]) = if lm l < 0 ∨ t < lm l then t else lm l := by
  unfold lm
  rw [lo_snoc]
  cases e : lo l with
  | none => rw [if_pos (.inl (by decide))]; rfl
  | some a =>
    have ha := h a (lo_some.1 e).1
    show min a t = if a < 0 ∨ t < a then t else a
    split <;> omega
theorem lm_neg {l : List Int} (h : ∀ x ∈ l, 0 ≤ x) : lm l < 0 ↔ l = [] := by
  unfold lm
  cases e : lo l with
  | none => rw [lo_none] at e; simp [e]
  | some a =>
    have ha := h a (lo_some.1 e).1
    constructor
    · intro hh
      have : a < 0 := hh
      omega
    · intro hh
      rw [hh] at e
      cases e
theorem lm_low {l : List Int} (h : l ≠ []) : lm l = low l := by
  unfold lm low
  cases e : lo l with
  | none => exact absurd (lo_none.1 e) h
  | some a => rfl
theorem ops_bd {s : St} {ws cs : List (Int × Int)} {b : List (List Int)} {f : Int} {m k : Nat} (z : Rz s ws cs) (hb : ∀ x ∈ b.flatten, 0 ≤ x ∧ x < ws.length) (hc : ∀ r ∈ cs, r.2 ≤ 1000000) (hl : ∀ l ∈ b, l.length ≤ 1000) {c : Nat} : ∀ t ∈ opk s ws cs b f m k c, 0 ≤ t ∧ t ≤ 80000000 := fun t ht => by
  unfold opk at ht
  obtain ⟨i, r, l, h1, h2, _, rfl⟩ := ops_mem.1 ht
  have hr : r ∈ cs := List.mem_of_mem_take (List.mem_of_mem_drop (List.mem_of_getElem? h1))
  have hlb : l ∈ b := List.mem_of_mem_take (List.mem_of_mem_drop (List.mem_of_getElem? h2))
  have hin := z.inn (l := l) fun x hx => hb x (List.mem_flatten.2 ⟨l, hlb, hx⟩)
  have ok0 := z.cr r hr
  have ok := go_ok z.rt ok0 hin
  have g1 := ar_nn z.rt ok f
  have g2 := ar_le z.rt ok f
  have g3 := go_le z.rt ok0 hin
  have g4 := hc r hr
  have g5 := hl l hlb
  rw [List.length_map] at g3
  have g7 : (bg r).le = r.2 := rfl
  omega
/-- lists that are empty cost nothing -/
theorem cst_take {s : St} {ws : List (Int × Int)} : ∀ {cs : List (Int × Int)} {p : List (List Int)} {k : Nat}, (∀ (c : Nat) l, p[c]? = some l → k ≤ c → l = []) → prs s ws cs p = prs s ws (cs.take k) (p.take k)
  | [], _, _, _ => by simp [prs]
  | _ :: _, [], _, _ => by simp [prs]
  | r :: cs, l :: p, 0, h => by
    have h0 : l = [] := h 0 l rfl (Nat.zero_le _)
    have ih := cst_take (s := s) (ws := ws) (cs := cs) (p := p) (k := 0) fun c m hm _ => h (c + 1) m (by simpa using hm) (Nat.zero_le _)
    rw [List.take_zero, List.take_zero] at ih ⊢
    show pr1 s ws r l ++ prs s ws cs p = _
    rw [ih, h0]; rfl
  | r :: cs, l :: p, k + 1, h => by
    have ih := cst_take (s := s) (ws := ws) (cs := cs) (p := p) (k := k) fun c m hm hc => h (c + 1) m (by simpa using hm) (by omega)
    rw [List.take_succ_cons, List.take_succ_cons]
    show pr1 s ws r l ++ prs s ws cs p = pr1 s ws r l ++ prs s ws (cs.take k) (p.take k)
    rw [ih]
end RM

/-- the times that a want may have, of a beginning -/
def optw (s : Sn) (k : Nat) (p : List (List Int)) (w : Nat) : List Int := RM.opt s.st s.ws s.cs (msk s) k p w
/-- the least cost of a beginning -/
def lsv (s : Sn) (k : Nat) (p : List (List Int)) (st : List Bool) : Int :=
  if ((lfk st s.ws.length).all fun x => !(optw s k p x.toNat).isEmpty) = true then RM.cst s.st s.ws s.cs p + ((lfk st s.ws.length).map fun x => RM.low (optw s k p x.toNat)).sum else 1099511627776
theorem lfk_mem {st : List Bool} {k : Nat} {x : Int} : x ∈ lfk st k ↔ ∃ w : Nat, x = (w : Int) ∧ w < k ∧ st[w]? = some false := by
  unfold lfk
  rw [List.mem_map]
  constructor
  · rintro ⟨w, hw, rfl⟩
    rw [List.mem_filter, List.mem_range] at hw
    exact ⟨w, rfl, hw.1, by simpa using hw.2⟩
  · rintro ⟨w, rfl, h1, h2⟩
    exact ⟨w, List.mem_filter.2 ⟨List.mem_range.2 h1, by simp [h2]⟩, rfl⟩
theorem lfk_sum {st : List Bool} {f : Nat → Int} : ∀ (k : Nat), ((lfk st k).map fun x => f x.toNat).sum = RM.sr k fun w => if st[w]? = some false then f w else 0
  | 0 => rfl
  | k + 1 => by
    rw [lfk_succ, List.map_append, List.sum_append, lfk_sum k, RM.sr]
    congr 1
    split
    · simp
    · simp

end Go.Proofs.Ytkcppidmbojglag
