/- Beginnings that grow. -/
import Derived.Test.YtkcppidmbojglagBdG
namespace Go.Proofs.Ytkcppidmbojglag
open Go.RowKit

section
variable {s : Sn} {p b : List (List Int)} {k : Nat}
theorem lst_nn (h : Fs s p) (hb : RM.Beg k b p) (hl : ∀ l ∈ p, l.length ≤ 1000) (hlb : ∀ l ∈ b, l.length ≤ 1000) : 0 ≤ RM.lst s.st s.ws s.cs (msk s) k b := by
  rw [RM.lst_eq h.fz h.ml h.pc hb, ← RM.sr_zero s.ws.length]
  refine RM.sr_le fun w hw => ?_
  split
  · unfold RM.tw
    cases e : (RM.wts s.st s.ws s.cs p)[w]? with
    | none => exact Int.le_refl _
    | some t => exact (h.bd hl t (List.mem_of_getElem? e)).1
  · rename_i hn
    have hne := RM.opt_ne h.rz h.fz h.ml h.pc hb hw hn
    have hm := (RM.low_mem hne).1
    have hpc := h.pc
    have hbl := hb.len
    unfold RM.opt at hm ⊢
    rw [← RM.opk_end (c := s.cs.length) (Nat.le_refl _) (by omega)] at hm ⊢
    exact (RM.ops_bd h.rz (fun x hx => h.fr x (hb.sub.subset hx)) h.af hlb _ hm).1
theorem cutp_whole {l : List Int} (hk : k + 1 = p.length) (hl : p[k]? = some l) : cutp p k l.length = p := by
  have hlt : k < p.length := by omega
  refine List.ext_getElem? fun c => ?_
  rcases Nat.lt_trichotomy c k with h | h | h
  · exact cutp_lo hlt h
  · subst h
    rw [cutp_at hlt, hl, Option.getD_some, List.take_length]
  · rw [List.getElem?_eq_none (by rw [cutp_length _ hlt]; omega), List.getElem?_eq_none (by omega)]
theorem cutp_next {l : List Int} (hk : k + 1 < p.length) (hl : p[k]? = some l) : RM.Beg (k + 1) (cutp p k l.length) p := ⟨cutp_length _ (by omega), hk, fun c m m' hm hm' => by
  have hlt : k < p.length := by omega
  have hcp := (List.getElem?_eq_some_iff.1 hm').1
  rcases Nat.lt_trichotomy c k with h | h | h
  · rw [cutp_lo hlt h, hm'] at hm
    cases hm
    exact ⟨[], by simp, fun _ => rfl, fun h' => by omega⟩
  · subst h
    rw [cutp_at hlt, hl, Option.getD_some, List.take_length] at hm
    rw [hl] at hm'
    cases hm
    cases hm'
    exact ⟨[], by simp, fun _ => rfl, fun h' => by omega⟩
  · rw [cutp_hi hlt h hcp] at hm
    cases hm
    exact ⟨m', rfl, fun h' => by omega, fun _ => rfl⟩⟩
theorem cutp_rise (hk : k < p.length) {i j : Nat} (hij : i ≤ j) : ∀ (c : Nat) l l', (cutp p k i)[c]? = some l → (cutp p k j)[c]? = some l' → ∃ l2, l' = l ++ l2 := fun c l l' h1 h2 => by
  have hcp := (List.getElem?_eq_some_iff.1 h1).1
  rw [cutp_length _ hk] at hcp
  rcases Nat.lt_trichotomy c k with h | h | h
  · rw [cutp_lo hk h] at h1 h2
    rw [h1] at h2
    cases h2
    exact ⟨[], by simp⟩
  · subst h
    rw [cutp_at hk] at h1 h2
    cases h1
    cases h2
    refine ⟨((p[c]?.getD []).take j).drop i, ?_⟩
    have := List.take_append_drop i ((p[c]?.getD []).take j)
    rw [List.take_take, Nat.min_eq_left hij] at this
    exact this.symm
  · rw [cutp_hi hk h hcp] at h1 h2
    cases h1
    cases h2
    exact ⟨[], rfl⟩
end
theorem wpList_cut {ops : Array Oper} {rest : List Oper} {op : Oper} {a : Act} {w : World} {Q : Exit → Act → World → Prop} (hgd : Region.wanted op (yielded ops a.tmps) = true) (x y : Operand) (ho : op.op = .slice 36 x none (some y) none)
    {aa : Option Addr} {n cap j : Nat} (hx : a.eval x = .slice aa n cap) (hy : a.eval y = .int .i64 (j : Int)) (hj : j ≤ cap)
    (h : wpList Try.prog ops Q rest (a.put op.dst (.slice aa j cap)) w) : wpList Try.prog ops Q (op :: rest) a w :=
  wpList_step fun _ hK => by
    rw [if_pos hgd]
    unfold Oper.wp execOp
    simp only [ho, hx, hy, Option.map_none, Option.map_some, Sem.run_bind, Sem.run_pure, Result.andThen_ok, slice_cut aa n cap j w hj]
    exact hK _ _ h

end Go.Proofs.Ytkcppidmbojglag
