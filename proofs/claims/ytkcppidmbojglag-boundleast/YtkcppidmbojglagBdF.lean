/- Beginnings of a plan that may be, as the program and the document look at them. -/
import Derived.Test.YtkcppidmbojglagBdC
import Derived.Test.YtkcppidmbojglagBdE
namespace Go.Proofs.Ytkcppidmbojglag
open Go.RowKit

section
variable {s : Sn} {p b : List (List Int)} {k : Nat}
theorem beg_bgn (h : Fs s p) (hb : RM.Beg k b p) : ∃ st, bgn s (k : Int) b = some st := by
  have hl := hb.len
  have hlt := hb.lt
  have hpc := h.pc
  have hsub := hb.sub
  obtain ⟨st, hst⟩ := PM.runs_ok (ms := msk s) (p := b) (c := 0) (st := List.replicate (msk s).length false) (by simp) (fun d l hd x hx => by
    have hd2 := (List.getElem?_eq_some_iff.1 hd).1
    obtain ⟨l2, e, _⟩ := hb.pre d l _ hd (List.getElem?_eq_getElem (show d < p.length by omega))
    rw [Nat.zero_add]
    exact h.fz.ok d _ (List.getElem?_eq_getElem (show d < p.length by omega)) x (by rw [e]; simp [hx])) (fun w hw => by
    rw [PM.nb_rep, Nat.zero_add, ← h.fz.once w hw]
    exact hsub.count_le _)
  refine ⟨st, ?_⟩
  rw [bgn_runs h.rg (by omega) (by omega) (fun c l hc hk => ?_)]
  · exact hst
  · have hc2 := (List.getElem?_eq_some_iff.1 hc).1
    obtain ⟨l2, _, _, e⟩ := hb.pre c l _ hc (List.getElem?_eq_getElem (show c < p.length by omega))
    exact e hk
theorem beg_lsv (h : Fs s p) (hb : RM.Beg k b p) {st : List Bool} (hst : bgn s (k : Int) b = some st) : lsv s k b st = RM.lst s.st s.ws s.cs (msk s) k b := by
  have bs := bgn_bs hst
  have hpc := h.pc
  unfold lsv
  rw [if_pos]
  · unfold RM.lst
    rw [lfk_sum (f := fun w => RM.low (optw s k b w))]
    congr 1
    refine RM.sr_congr fun w hw => ?_
    by_cases hm : (w : Int) ∈ b.flatten
    · rw [if_pos hm, if_neg (fun e => (bs.lf w hw).1 e hm)]
    · rw [if_neg hm, if_pos ((bs.lf w hw).2 hm)]; rfl
  · rw [List.all_eq_true]
    intro x hx
    obtain ⟨w, rfl, hw, hs⟩ := lfk_mem.1 hx
    rw [Int.toNat_natCast]
    have := RM.opt_ne h.rz h.fz h.ml h.pc hb hw ((bs.lf w hw).1 hs)
    cases e : optw s k b w with
    | nil => exact absurd e this
    | cons _ _ => rfl
theorem beg_bgs (hb : RM.Beg k b p) : bgs p (k : Int) b = true := by
  have hl := hb.len
  have hlt := hb.lt
  unfold bgs
  rw [Int.toNat_natCast]
  simp only [Bool.and_eq_true, decide_eq_true_eq, List.all_eq_true, List.mem_range]
  refine ⟨⟨⟨by omega, by omega⟩, by omega⟩, fun c hc => ?_⟩
  have h1 : p[c]? = some p[c] := List.getElem?_eq_getElem (by omega)
  have h2 : b[c]? = some b[c] := List.getElem?_eq_getElem (by omega)
  obtain ⟨l2, e, e1, _⟩ := hb.pre c _ _ h2 h1
  rw [h1, h2]
  show okc k c b[c] p[c] = true
  unfold okc
  rw [e]
  simp only [Bool.and_eq_true, Bool.or_eq_true, decide_eq_true_eq, List.length_append]
  refine ⟨⟨?_, by omega⟩, by simp⟩
  by_cases hk : k ≤ c
  · exact .inl hk
  · right; rw [e1 (by omega)]; rfl
end
/-- the first lists, a part of the next one, and none behind -/
def cutp (p : List (List Int)) (k j : Nat) : List (List Int) := p.take k ++ ((p[k]?.getD []).take j :: List.replicate (p.length - (k + 1)) [])
theorem cutp_length {p : List (List Int)} {k : Nat} (j : Nat) (hk : k < p.length) : (cutp p k j).length = p.length := by
  unfold cutp
  rw [List.length_append, List.length_cons, List.length_replicate, List.length_take]
  omega
theorem cutp_lo {p : List (List Int)} {k j c : Nat} (hk : k < p.length) (hc : c < k) : (cutp p k j)[c]? = p[c]? := by
  unfold cutp
  rw [List.getElem?_append_left (by rw [List.length_take]; omega), List.getElem?_take, if_pos hc]
theorem cutp_at {p : List (List Int)} {k j : Nat} (hk : k < p.length) : (cutp p k j)[k]? = some ((p[k]?.getD []).take j) := by
  unfold cutp
  rw [List.getElem?_append_right (by rw [List.length_take]; omega), List.length_take, show k - min k p.length = 0 by omega]
  rfl
theorem cutp_hi {p : List (List Int)} {k j c : Nat} (hk : k < p.length) (hc : k < c) (hl : c < p.length) : (cutp p k j)[c]? = some [] := by
  unfold cutp
  rw [List.getElem?_append_right (by rw [List.length_take]; omega), List.length_take, show c - min k p.length = (c - k - 1) + 1 by omega, List.getElem?_cons_succ, List.getElem?_replicate, if_pos (by omega)]
theorem cutp_beg {p : List (List Int)} {k : Nat} (j : Nat) (hk : k < p.length) : RM.Beg k (cutp p k j) p := ⟨cutp_length j hk, hk, fun c l m hl hm => by
  have hcp := (List.getElem?_eq_some_iff.1 hm).1
  rcases Nat.lt_trichotomy c k with h | h | h
  · rw [cutp_lo hk h, hm] at hl
    cases hl
    exact ⟨[], by simp, fun _ => rfl, fun h' => by omega⟩
  · subst h
    rw [cutp_at hk, hm] at hl
    simp only [Option.getD_some, Option.some.injEq] at hl
    subst hl
    exact ⟨m.drop j, (List.take_append_drop j m).symm, fun h' => by omega, fun h' => by omega⟩
  · rw [cutp_hi hk h hcp] at hl
    cases hl
    exact ⟨m, rfl, fun h' => by omega, fun _ => rfl⟩⟩

theorem cutp_max {p : List (List Int)} {k j n : Nat} (hk : k < p.length) (h : ∀ l ∈ p, l.length ≤ n) : ∀ m ∈ cutp p k j, m.length ≤ n := by
  intro m hm
  unfold cutp at hm
  rw [List.mem_append, List.mem_cons] at hm
  rcases hm with hm | rfl | hm
  · exact h m (List.mem_of_mem_take hm)
  · have := h p[k] (List.getElem_mem hk)
    rw [List.getElem?_eq_getElem hk, Option.getD_some, List.length_take]
    omega
  · rw [List.eq_of_mem_replicate hm]; simp

end Go.Proofs.Ytkcppidmbojglag
