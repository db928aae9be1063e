/- A plan with one want more. No program is named here. -/
import Derived.Test.YtkcppidmbojglafRtN
namespace Go.Proofs.Ytkcppidmbojglaf
namespace RM
open SM

section
variable {s : St} {ws : List (Int × Int)}
theorem map_more {l : List Int} (y : Int × Int) (h : ∀ x ∈ l, 0 ≤ x ∧ x < ws.length) : l.map (wf (ws ++ [y])) = l.map (wf ws) :=
  List.map_congr_left fun x hx => wf_more y (h x hx).1 (h x hx).2
theorem prs_more (y : Int × Int) : ∀ {cs : List (Int × Int)} {p : List (List Int)}, (∀ x ∈ p.flatten, 0 ≤ x ∧ x < ws.length) → prs s (ws ++ [y]) cs p = prs s ws cs p
  | [], _, _ => by simp [prs]
  | _ :: _, [], _ => by simp [prs]
  | r :: cs, l :: p, h => by
    show pr1 s (ws ++ [y]) r l ++ prs s (ws ++ [y]) cs p = pr1 s ws r l ++ prs s ws cs p
    rw [prs_more y fun x hx => h x (by rw [List.flatten_cons]; exact List.mem_append_right _ hx)]
    unfold pr1
    rw [map_more y fun x hx => h x (by rw [List.flatten_cons]; exact List.mem_append_left _ hx)]
/-- one list is another one -/
theorem cst_set : ∀ {cs : List (Int × Int)} {p : List (List Int)} {c : Nat} {r : Int × Int} {l : List Int} (l' : List Int), cs[c]? = some r → p[c]? = some l →
    cst s ws cs (p.set c l') + (tm s (bg r) (l.map (wf ws))).sum = cst s ws cs p + (tm s (bg r) (l'.map (wf ws))).sum
  | [], _, _, _, _, _, h, _ => by simp at h
  | _ :: _, [], _, _, _, _, _, h => by simp at h
  | r0 :: cs, l0 :: p, 0, r, l, l', h1, h2 => by
    simp at h1 h2
    subst h1 h2
    rw [List.set_cons_zero, cst_cons, cst_cons]
    omega
  | r0 :: cs, l0 :: p, c + 1, r, l, l', h1, h2 => by
    have := cst_set (cs := cs) (p := p) (c := c) (r := r) (l := l) l' (by simpa using h1) (by simpa using h2)
    rw [List.set_cons_succ, cst_cons, cst_cons]
    omega
end
/-- what is known of a snapshot's routes -/
structure Rz (s : St) (ws cs : List (Int × Int)) : Prop where
  rt : Rt s
  cr : ∀ r ∈ cs, Ok s (bg r)
  wr : ∀ y ∈ ws, 0 ≤ y.1 ∧ y.1 < s.fl
section
variable {s : St} {ws cs : List (Int × Int)} {p : List (List Int)}
theorem Rz.wf (h : Rz s ws cs) {x : Int} (h0 : 0 ≤ x) (h1 : x < ws.length) : 0 ≤ wf ws x ∧ wf ws x < s.fl := by
  obtain ⟨w, rfl⟩ : ∃ w : Nat, x = (w : Int) := ⟨x.toNat, by omega⟩
  have hw : ws[w]? = some (ws[w]'(by omega)) := List.getElem?_eq_getElem (by omega)
  rw [wf_get hw]
  exact h.wr _ (List.mem_of_getElem? hw)
theorem Rz.inn (h : Rz s ws cs) {l : List Int} (hl : ∀ x ∈ l, 0 ≤ x ∧ x < ws.length) : In s (l.map (RM.wf ws)) := fun f hf => by
  obtain ⟨x, hx, rfl⟩ := List.mem_map.1 hf
  exact h.wf (hl x hx).1 (hl x hx).2
theorem Rz.more (h : Rz s ws cs) {y : Int × Int} (h0 : 0 ≤ y.1) (h1 : y.1 < s.fl) : Rz s (ws ++ [y]) cs := ⟨h.rt, h.cr, fun z hz => by
  rcases List.mem_append.1 hz with hz | hz
  · exact h.wr z hz
  · simp at hz; subst hz; exact ⟨h0, h1⟩⟩
/-- what one want more costs -/
theorem more_cst (h : Rz s ws cs) {y : Int × Int} (h0 : 0 ≤ y.1) (h1 : y.1 < s.fl) (hp : ∀ x ∈ p.flatten, 0 ≤ x ∧ x < ws.length) {c : Nat} {r : Int × Int} {l1 l2 : List Int} (hc : cs[c]? = some r) (hl : p[c]? = some (l1 ++ l2)) :
    cst s ws cs p + ar s (go s (bg r) (l1.map (wf ws))) y.1 ≤ cst s (ws ++ [y]) cs (p.set c (l1 ++ (ws.length : Int) :: l2)) ∧
      (l2 = [] → cst s (ws ++ [y]) cs (p.set c (l1 ++ (ws.length : Int) :: l2)) = cst s ws cs p + ar s (go s (bg r) (l1.map (wf ws))) y.1) := by
  have hm : ∀ x ∈ l1 ++ l2, 0 ≤ x ∧ x < ws.length := fun x hx => hp x (List.mem_flatten.2 ⟨_, List.mem_of_getElem? hl, hx⟩)
  have hm1 : ∀ x ∈ l1, 0 ≤ x ∧ x < ws.length := fun x hx => hm x (by simp [hx])
  have hm2 : ∀ x ∈ l2, 0 ≤ x ∧ x < ws.length := fun x hx => hm x (by simp [hx])
  have e1 := cst_set (s := s) (ws := ws ++ [y]) (l1 ++ (ws.length : Int) :: l2) hc hl
  have e2 : cst s (ws ++ [y]) cs p = cst s ws cs p := by unfold cst; rw [prs_more y hp]
  have e3 : (l1 ++ (ws.length : Int) :: l2).map (wf (ws ++ [y])) = l1.map (wf ws) ++ (y.1 :: l2.map (wf ws)) := by
    rw [List.map_append, List.map_cons, map_more y hm1, map_more y hm2, wf_last]
  rw [e2, e3, map_more y hm, List.map_append, tm_append, tm_append, List.sum_append, List.sum_append] at e1
  have e4 : tm s (go s (bg r) (l1.map (wf ws))) (y.1 :: l2.map (wf ws)) = ar s (go s (bg r) (l1.map (wf ws))) y.1 :: tm s (nx s (go s (bg r) (l1.map (wf ws))) y.1) (l2.map (wf ws)) := rfl
  rw [e4, List.sum_cons] at e1
  have ok := go_ok h.rt (h.cr r (List.mem_of_getElem? hc)) (h.inn hm1)
  have hle := tm_sum_le h.rt ok (nx_ok h.rt ok h0 h1) (h.inn hm2) (le_nx h.rt ok h0 h1)
  refine ⟨by omega, fun e => ?_⟩
  subst e
  simp only [List.map_nil, tm, List.sum_nil] at e1
  omega
/-- the want itself -/
theorem more_own {y : Int × Int} (hp : ∀ x ∈ p.flatten, 0 ≤ x ∧ x < ws.length) {c : Nat} {r : Int × Int} {l1 l2 : List Int} (hc : cs[c]? = some r) (hl : p[c]? = some (l1 ++ l2)) :
    ((ws.length : Int), ar s (go s (bg r) (l1.map (wf ws))) y.1) ∈ prs s (ws ++ [y]) cs (p.set c (l1 ++ (ws.length : Int) :: l2)) := by
  have hm1 : ∀ x ∈ l1, 0 ≤ x ∧ x < ws.length := fun x hx => hp x (List.mem_flatten.2 ⟨_, List.mem_of_getElem? hl, by simp [hx]⟩)
  have := prs_at (s := s) (ws := ws ++ [y]) (cs := cs) (p := p.set c (l1 ++ (ws.length : Int) :: l2)) (c := c) (i := l1.length) (w := (ws.length : Int)) hc (List.getElem?_set_self (List.getElem?_eq_some_iff.1 hl).1) (by simp)
  rwa [List.take_left' rfl, map_more y hm1, wf_last] at this
/-- none is earlier -/
theorem more_late (h : Rz s ws cs) {y : Int × Int} (h0 : 0 ≤ y.1) (h1 : y.1 < s.fl) (hp : ∀ x ∈ p.flatten, 0 ≤ x ∧ x < ws.length) {c : Nat} {r : Int × Int} {l1 l2 : List Int} (hc : cs[c]? = some r) (hl : p[c]? = some (l1 ++ l2)) {w t : Int} (hw : (w, t) ∈ prs s ws cs p) :
    ∃ u, (w, u) ∈ prs s (ws ++ [y]) cs (p.set c (l1 ++ (ws.length : Int) :: l2)) ∧ t ≤ u := by
  obtain ⟨d, i, r', l, g1, g2, g3, g4⟩ := prs_where hw
  have hml : ∀ x ∈ l, 0 ≤ x ∧ x < ws.length := fun x hx => hp x (List.mem_flatten.2 ⟨_, List.mem_of_getElem? g2, hx⟩)
  have hmt : ∀ x ∈ l.take i, 0 ≤ x ∧ x < ws.length := fun x hx => hml x (List.mem_of_mem_take hx)
  have hww := hml w (List.mem_of_getElem? g3)
  have hwf := wf_more (ws := ws) y hww.1 hww.2
  by_cases e : c = d
  · subst e
    rw [hc] at g1
    rw [hl] at g2
    cases g1
    cases g2
    have hset : (p.set c (l1 ++ (ws.length : Int) :: l2))[c]? = some (l1 ++ (ws.length : Int) :: l2) := List.getElem?_set_self (List.getElem?_eq_some_iff.1 hl).1
    by_cases hi : i < l1.length
    · have := prs_at (s := s) (ws := ws ++ [y]) (i := i) (w := w) hc hset (by rw [List.getElem?_append_left hi] at g3 ⊢; exact g3)
      rw [List.take_append_of_le_length (by omega)] at this g4 hmt
      rw [map_more y hmt, hwf, ← g4] at this
      exact ⟨t, this, Int.le_refl _⟩
    · have g3' : l2[i - l1.length]? = some w := by rwa [List.getElem?_append_right (by omega)] at g3
      have := prs_at (s := s) (ws := ws ++ [y]) (i := i + 1) (w := w) hc hset (by rw [List.getElem?_append_right (by omega), show i + 1 - l1.length = (i - l1.length) + 1 by omega, List.getElem?_cons_succ]; exact g3')
      have e1 : (l1 ++ (ws.length : Int) :: l2).take (i + 1) = l1 ++ (ws.length : Int) :: l2.take (i - l1.length) := by
        rw [List.take_append, List.take_of_length_le (by omega), show i + 1 - l1.length = (i - l1.length) + 1 by omega, List.take_succ_cons]
      have e2 : (l1 ++ l2).take i = l1 ++ l2.take (i - l1.length) := by rw [List.take_append, List.take_of_length_le (by omega)]
      have hm1 : ∀ x ∈ l1, 0 ≤ x ∧ x < ws.length := fun x hx => hml x (by simp [hx])
      have hm2 : ∀ x ∈ l2.take (i - l1.length), 0 ≤ x ∧ x < ws.length := fun x hx => hml x (List.mem_append_right _ (List.mem_of_mem_take hx))
      rw [e1, List.map_append, List.map_cons, map_more y hm1, map_more y hm2, wf_last, hwf] at this
      rw [e2, List.map_append, go_append] at g4
      refine ⟨_, this, ?_⟩
      rw [g4, go_append]
      have ok := go_ok h.rt (h.cr r (List.mem_of_getElem? hc)) (h.inn hm1)
      have hin := h.wf hww.1 hww.2
      exact (Le.go h.rt ok (nx_ok h.rt ok h0 h1) (h.inn hm2) (le_nx h.rt ok h0 h1)) _ hin.1 hin.2
  · have := prs_at (s := s) (ws := ws ++ [y]) (i := i) (w := w) g1 (show (p.set c (l1 ++ (ws.length : Int) :: l2))[d]? = some l by rw [List.getElem?_set_ne e]; exact g2) g3
    rw [map_more y hmt, hwf, ← g4] at this
    exact ⟨t, this, Int.le_refl _⟩
end

end RM
end Go.Proofs.Ytkcppidmbojglaf
