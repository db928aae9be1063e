/- One want more. -/
import Derived.Test.YtkcppidmbojglafRtC
import Derived.Test.YtkcppidmbojglafPlOm
namespace Go.Proofs.Ytkcppidmbojglaf
open Go.RowKit

/-- the snapshot with one want more: the car c takes it -/
def morr (s : Sn) (f : Int) (c : Nat) : Sn := ⟨s.st, s.cs, s.ws ++ [(f, ((2 ^ c : Nat) : Int))]⟩
/-- the plan with the want w put into the list of the car c, at k -/
def insp (p : List (List Int)) (c k : Nat) (w : Int) (l : List Int) : List (List Int) := p.set c (l.take k ++ w :: l.drop k)
section
variable {s : Sn} {p : List (List Int)} {c k : Nat} {f : Int} {l : List Int}
theorem morr_rgt (h : rgt s = true) (hc : c < s.cs.length) (h0 : 0 ≤ f) (h1 : f < s.st.fl) (hw : s.ws.length ≤ 100) : rgt (morr s f c) = true := by
  unfold rgt at h ⊢
  simp only [Bool.and_eq_true, decide_eq_true_eq] at h ⊢
  obtain ⟨⟨⟨⟨a1, a2⟩, a3⟩, a4⟩, a5⟩ := h
  refine ⟨⟨⟨⟨a1, a2⟩, ?_⟩, a4⟩, ?_⟩
  · show (s.ws ++ [_]).length ≤ 128
    simp; omega
  · show (s.ws ++ [_]).all _ = true
    rw [List.all_append, Bool.and_eq_true]
    refine ⟨a5, ?_⟩
    have hcn : c < s.st.ca.toNat := by omega
    have h2 : (2 : Nat) ^ c < 2 ^ s.st.ca.toNat := Nat.pow_lt_pow_right (by decide) hcn
    have h3 : 0 < (2 : Nat) ^ c := Nat.pow_pos (by decide)
    simp only [List.all_cons, List.all_nil, Bool.and_true]
    unfold wok
    simp only [Bool.and_eq_true, decide_eq_true_eq]
    refine ⟨⟨⟨h0, h1⟩, by omega⟩, ?_⟩
    exact_mod_cast h2
theorem morr_msk : msk (morr s f c) = msk s ++ [2 ^ c] := by
  unfold msk morr
  rw [List.map_append, List.map_cons, List.map_nil, Int.toNat_natCast]
theorem okx_more {ms : List Nat} {m d : Nat} {x : Int} (h : PM.okx ms d x = true) : PM.okx (ms ++ [m]) d x = true := by
  obtain ⟨h0, h1, h2⟩ := PM.okx_iff.1 h
  refine PM.okx_iff.2 ⟨h0, by simp; omega, ?_⟩
  rw [List.getElem?_append_left (by omega)]; exact h2
theorem insp_fz {ms : List Nat} (h : PM.Fz ms p) (hl : p[c]? = some l) (hb : PM.bt (2 ^ c) c = true) : PM.Fz (ms ++ [2 ^ c]) (insp p c k (ms.length : Int) l) := by
  have hcl := (List.getElem?_eq_some_iff.1 hl).1
  refine ⟨fun d m hd x hx => ?_, fun w hw => ?_⟩
  · by_cases e : c = d
    · subst e
      unfold insp at hd
      rw [List.getElem?_set_self hcl] at hd
      cases hd
      have hx2 : x = (ms.length : Int) ∨ x ∈ l := by
        rcases List.mem_append.1 hx with hx | hx
        · exact .inr (List.mem_of_mem_take hx)
        · rcases List.mem_cons.1 hx with hx | hx
          · exact .inl hx
          · exact .inr (List.mem_of_mem_drop hx)
      rcases hx2 with rfl | hx2
      · refine PM.okx_iff.2 ⟨by omega, by simp; omega, ?_⟩
        rw [Int.toNat_natCast, List.getElem?_append_right (Nat.le_refl _), Nat.sub_self]
        exact hb
      · exact okx_more (h.ok c l hl x hx2)
    · unfold insp at hd
      rw [List.getElem?_set_ne e] at hd
      exact okx_more (h.ok d m hd x hx)
  · have h1 := PM.count_flat_set (x := (w : Int)) (l' := l.take k ++ (ms.length : Int) :: l.drop k) hl
    have h2 : (l.take k ++ (ms.length : Int) :: l.drop k).count (w : Int) = l.count (w : Int) + if w = ms.length then 1 else 0 := by
      rw [List.count_append, List.count_cons]
      have h3 : l.count (w : Int) = (l.take k).count (w : Int) + (l.drop k).count (w : Int) := by rw [← List.count_append, List.take_append_drop]
      rw [h3]
      by_cases e : w = ms.length
      · subst e; simp; omega
      · have e2 : ¬ (ms.length : Int) = (w : Int) := by omega
        simp [e, e2]
    show (p.set c _).flatten.count (w : Int) = 1
    rw [h2] at h1
    rw [List.length_append, List.length_singleton] at hw
    by_cases e : w = ms.length
    · rw [if_pos e] at h1
      have h4 : p.flatten.count (w : Int) = 0 := by
        rw [List.count_eq_zero]
        intro hm
        obtain ⟨m, hmm, hxm⟩ := List.mem_flatten.1 hm
        obtain ⟨d, hd⟩ := List.getElem?_of_mem hmm
        have := (PM.okx_iff.1 (h.ok d m hd _ hxm)).2.1
        omega
      omega
    · rw [if_neg e] at h1
      have h4 := h.once w (by omega)
      omega
theorem insp_fsb (h : fsb s p = true) (hl : p[c]? = some l) (h0 : 0 ≤ f) (h1 : f < s.st.fl) (hw : s.ws.length ≤ 100) (hb : PM.bt (2 ^ c) c = true) : fsb (morr s f c) (insp p c k (s.ws.length : Int) l) = true := by
  have hF := fsb_fs h
  have hcl := (List.getElem?_eq_some_iff.1 hl).1
  have hpc := hF.pc
  unfold fsb at h ⊢
  simp only [Bool.and_eq_true, decide_eq_true_eq] at h ⊢
  refine ⟨⟨morr_rgt h.1.1 (by omega) h0 h1 hw, ?_⟩, ?_⟩
  · show (p.set c _).length = s.cs.length
    rw [List.length_set]; exact h.1.2
  · rw [PM.feas_iff, morr_msk]
    have := insp_fz (k := k) (PM.feas_iff.1 h.2) hl hb
    rw [hF.ml] at this
    exact this
/-- none of the others is earlier -/
theorem insp_late (h : fsb s p = true) (h' : fsb (morr s f c) (insp p c k (s.ws.length : Int) l) = true) (hl : p[c]? = some l) (h0 : 0 ≤ f) (h1 : f < s.st.fl) {i : Nat} (hi : i < s.ws.length) :
    ∃ t u, (RM.wts s.st s.ws s.cs p)[i]? = some t ∧ (RM.wts s.st (s.ws ++ [(f, ((2 ^ c : Nat) : Int))]) s.cs (insp p c k (s.ws.length : Int) l))[i]? = some u ∧ t ≤ u := by
  have hF := fsb_fs h
  have hG := fsb_fs h'
  have hcl := (List.getElem?_eq_some_iff.1 hl).1
  have hpc := hF.pc
  obtain ⟨r, hr⟩ : ∃ r, s.cs[c]? = some r := ⟨_, List.getElem?_eq_getElem (by omega)⟩
  have hm : (i : Int) ∈ p.flatten := List.count_pos_iff.1 (by rw [hF.fz.once i (by rw [hF.ml]; exact hi)]; omega)
  obtain ⟨m, hmm, hxm⟩ := List.mem_flatten.1 hm
  obtain ⟨d, hd⟩ := List.getElem?_of_mem hmm
  obtain ⟨j, hj⟩ := List.getElem?_of_mem hxm
  have hdl := (List.getElem?_eq_some_iff.1 hd).1
  obtain ⟨r', hr'⟩ : ∃ r, s.cs[d]? = some r := ⟨_, List.getElem?_eq_getElem (by omega)⟩
  have g1 := RM.prs_at (s := s.st) (ws := s.ws) hr' hd hj
  have hl2 : p[c]? = some (l.take k ++ l.drop k) := by rw [List.take_append_drop]; exact hl
  obtain ⟨u, g2, g3⟩ := RM.more_late hF.rz (y := (f, ((2 ^ c : Nat) : Int))) h0 h1 hF.fr hr hl2 g1
  have e1 := RM.wts_get hF.fz hF.ml hF.pc g1
  have e2 := RM.wts_get hG.fz hG.ml hG.pc g2
  rw [Int.toNat_natCast] at e1 e2
  exact ⟨_, u, e1, e2, g3⟩
/-- the new want's own time, and what all cost -/
theorem insp_own (h : fsb s p = true) (h' : fsb (morr s f c) (insp p c k (s.ws.length : Int) l) = true) (hl : p[c]? = some l) (h0 : 0 ≤ f) (h1 : f < s.st.fl) :
    ∃ u, (RM.wts s.st (s.ws ++ [(f, ((2 ^ c : Nat) : Int))]) s.cs (insp p c k (s.ws.length : Int) l))[s.ws.length]? = some u ∧
      RM.cst s.st s.ws s.cs p + u ≤ RM.cst s.st (s.ws ++ [(f, ((2 ^ c : Nat) : Int))]) s.cs (insp p c k (s.ws.length : Int) l) ∧
      (l.length ≤ k → RM.cst s.st (s.ws ++ [(f, ((2 ^ c : Nat) : Int))]) s.cs (insp p c k (s.ws.length : Int) l) = RM.cst s.st s.ws s.cs p + u) := by
  have hF := fsb_fs h
  have hG := fsb_fs h'
  have hcl := (List.getElem?_eq_some_iff.1 hl).1
  have hpc := hF.pc
  obtain ⟨r, hr⟩ : ∃ r, s.cs[c]? = some r := ⟨_, List.getElem?_eq_getElem (by omega)⟩
  have hl2 : p[c]? = some (l.take k ++ l.drop k) := by rw [List.take_append_drop]; exact hl
  have g2 := RM.more_own (s := s.st) (y := (f, ((2 ^ c : Nat) : Int))) hF.fr hr hl2
  have e2 := RM.wts_get hG.fz hG.ml hG.pc g2
  rw [Int.toNat_natCast] at e2
  have g3 := RM.more_cst hF.rz (y := (f, ((2 ^ c : Nat) : Int))) h0 h1 hF.fr hr hl2
  exact ⟨_, e2, g3.1, fun hk => g3.2 (by rw [List.drop_eq_nil_iff]; exact hk)⟩
end

end Go.Proofs.Ytkcppidmbojglaf
