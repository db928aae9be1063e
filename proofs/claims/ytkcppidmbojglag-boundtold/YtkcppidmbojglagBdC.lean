/- The least cost of a beginning, as the document reckons it. -/
import Derived.Test.YtkcppidmbojglagBdB
import Derived.Test.YtkcppidmbojglagNewO
namespace Go.Proofs.Ytkcppidmbojglag
open Go.RowKit

/-- what is known of a beginning -/
structure Bs (s : Sn) (k : Nat) (p : List (List Int)) (st : List Bool) : Prop where
  rg : rgt s = true
  rz : RM.Rz s.st s.ws s.cs
  pc : s.cs.length = p.length
  kl : k < p.length
  p8 : p.length ≤ 8
  bh : ∀ (c : Nat) l, p[c]? = some l → k < c → l = []
  fr : ∀ x ∈ p.flatten, 0 ≤ x ∧ x < s.ws.length
  sl : st.length = s.ws.length
  wl : s.ws.length ≤ 128
  af : ∀ r ∈ s.cs, r.2 ≤ 1000000
  lf : ∀ w : Nat, w < s.ws.length → (st[w]? = some false ↔ (w : Int) ∉ p.flatten)
theorem bgn_bs {s : Sn} {k : Nat} {p : List (List Int)} {st : List Bool} (h : bgn s (k : Int) p = some st) : Bs s k p st := by
  unfold bgn at h
  split at h
  case isFalse => cases h
  case isTrue hh =>
    simp only [Bool.and_eq_true, decide_eq_true_eq, List.all_eq_true] at hh
    obtain ⟨⟨⟨⟨h1, h2⟩, _⟩, h4⟩, h5⟩ := hh
    obtain ⟨n, hrs⟩ := rgt_rs h1
    have hml : (msk s).length = s.ws.length := hrs.mm.len
    have hr := PM.runs_some (by simp) h
    have g1 := hrs.cl
    have g2 := hrs.n8
    refine ⟨h1, rgt_rz h1, h2.symm, by omega, by omega, fun c l hl hc => ?_, fun x hx => ?_, ?_, hrs.wl, rgt_after h1, fun w hw => ?_⟩
    · have := h5 l (List.mem_of_getElem? (i := c - (k + 1)) (by rw [Int.toNat_natCast, List.getElem?_drop, show k + 1 + (c - (k + 1)) = c by omega]; exact hl))
      simpa using this
    · obtain ⟨l, hl, hxl⟩ := List.mem_flatten.1 hx
      obtain ⟨c, hc⟩ := List.getElem?_of_mem hl
      have := PM.okx_iff.1 (hr.1 c l hc x hxl)
      omega
    · exact hr.2.1.trans hml
    · have h6 := hr.2.2 w (by omega)
      rw [PM.nb_rep, Nat.zero_add] at h6
      obtain ⟨b, hb⟩ : ∃ b, st[w]? = some b := ⟨_, List.getElem?_eq_getElem (by have := hr.2.1; omega)⟩
      cases b with
      | true =>
        rw [PM.nb_true hb] at h6
        rw [hb]
        constructor
        · intro hh; cases hh
        · intro hh; exact absurd (List.count_pos_iff.1 (by omega)) hh
      | false =>
        rw [PM.nb_false hb] at h6
        rw [hb]
        constructor
        · intro _ hh; have := List.count_pos_iff.2 hh; omega
        · intro _; rfl
theorem prs_len {s : St} {ws : List (Int × Int)} : ∀ {cs : List (Int × Int)} {p : List (List Int)}, (∀ l ∈ p, l.length ≤ 1000) → (RM.prs s ws cs p).length ≤ 1000 * p.length
  | [], _, _ => by simp [RM.prs]
  | _ :: _, [], _ => by simp [RM.prs]
  | r :: cs, l :: p, h => by
    have ih := prs_len (s := s) (ws := ws) (cs := cs) (p := p) fun l hl => h l (by simp [hl])
    have h0 := h l (by simp)
    show (RM.pr1 s ws r l ++ RM.prs s ws cs p).length ≤ _
    rw [List.length_append, RM.pr1_length, List.length_cons]
    omega
/-- the sum of the times, behind k lists and j wants of the next one -/
def sm2 (s : Sn) (p : List (List Int)) (r : Int × Int) (l : List Int) (k j : Nat) : Int := ((RM.prs s.st s.ws (s.cs.take k) (p.take k) ++ (RM.pr1 s.st s.ws r l).take j).map (·.2)).sum
def sm1 (s : Sn) (p : List (List Int)) (k : Nat) : Int := ((RM.prs s.st s.ws (s.cs.take k) (p.take k)).map (·.2)).sum
theorem sm2_zero (s : Sn) (p : List (List Int)) (r : Int × Int) (l : List Int) (k : Nat) : sm2 s p r l k 0 = sm1 s p k := by unfold sm2 sm1; rw [List.take_zero, List.append_nil]
theorem sm2_succ {s : Sn} {p : List (List Int)} {r : Int × Int} {l : List Int} {k j : Nat} {x : Int} (h : l[j]? = some x) : sm2 s p r l k (j + 1) = sm2 s p r l k j + RM.ar s.st (RM.go s.st (RM.bg r) ((l.take j).map (RM.wf s.ws))) (RM.wf s.ws x) := by
  unfold sm2
  rw [take_snoc (RM.pr1_get h), ← List.append_assoc, List.map_append, List.sum_append]
  simp
theorem sm2_end {s : Sn} {p : List (List Int)} {r : Int × Int} {l : List Int} {k : Nat} (h1 : s.cs[k]? = some r) (h2 : p[k]? = some l) : sm2 s p r l k l.length = sm1 s p (k + 1) := by
  unfold sm2 sm1
  rw [RM.prs_snoc h1 h2, List.take_of_length_le (l := RM.pr1 s.st s.ws r l) (by rw [RM.pr1_length]; exact Nat.le_refl _)]
theorem sm1_end {s : Sn} {k : Nat} {p : List (List Int)} {st : List Bool} (h : Bs s k p st) : sm1 s p (k + 1) = RM.cst s.st s.ws s.cs p := by
  unfold sm1 RM.cst
  rw [← RM.cst_take fun c l hl hc => h.bh c l hl (by omega)]
theorem sm2_bd {s : Sn} {k0 : Nat} {p : List (List Int)} {st : List Bool} (h : Bs s k0 p st) (hl : ∀ l ∈ p, l.length ≤ 1000) {r : Int × Int} {l : List Int} {k j : Nat} (h1 : s.cs[k]? = some r) (h2 : p[k]? = some l) : 0 ≤ sm2 s p r l k j ∧ sm2 s p r l k j ≤ 800000000000 := by
  unfold sm2
  have hb := RM.prs_bd h.rz h.fr h.af hl
  have hmem : ∀ x ∈ RM.prs s.st s.ws (s.cs.take k) (p.take k) ++ (RM.pr1 s.st s.ws r l).take j, x ∈ RM.prs s.st s.ws s.cs p := fun x hx => by
    have hx2 : x ∈ RM.prs s.st s.ws (s.cs.take (k + 1)) (p.take (k + 1)) := by
      rw [RM.prs_snoc h1 h2]
      rcases List.mem_append.1 hx with hx | hx
      · exact List.mem_append_left _ hx
      · exact List.mem_append_right _ (List.mem_of_mem_take hx)
    obtain ⟨w, t⟩ := x
    obtain ⟨c, i, r', l', g1, g2, g3, g4⟩ := RM.prs_where hx2
    have g1' : s.cs[c]? = some r' := by
      rw [List.getElem?_take] at g1
      split at g1
      · exact g1
      · cases g1
    have g2' : p[c]? = some l' := by
      rw [List.getElem?_take] at g2
      split at g2
      · exact g2
      · cases g2
    rw [g4]
    exact RM.prs_at g1' g2' g3
  have hsb := RM.sum_bd (B := 80000000) (l := (RM.prs s.st s.ws (s.cs.take k) (p.take k) ++ (RM.pr1 s.st s.ws r l).take j).map (·.2)) fun t ht => by
    obtain ⟨x, hx, rfl⟩ := List.mem_map.1 ht
    exact hb x (hmem x hx)
  rw [List.length_map, List.length_append, List.length_take, RM.pr1_length] at hsb
  have e1 := prs_len (s := s.st) (ws := s.ws) (cs := s.cs.take k) (p := p.take k) fun l hl' => hl l (List.mem_of_mem_take hl')
  rw [List.length_take] at e1
  have e2 := hl l (List.mem_of_getElem? h2)
  have e3 := h.p8
  have e4 := (List.getElem?_eq_some_iff.1 h2).1
  omega

end Go.Proofs.Ytkcppidmbojglag
