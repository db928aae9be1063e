/- When a plan's wants are served, and what it costs. No program is named here. -/
import Derived.Test.YtkcppidmbojglafRtM
namespace Go.Proofs.Ytkcppidmbojglaf
namespace RM
open SM

/-- a want's floor -/
def wf (ws : List (Int × Int)) (w : Int) : Int := (ws[w.toNat]?.map (·.1)).getD 0
theorem wf_get {ws : List (Int × Int)} {i : Nat} {y : Int × Int} (h : ws[i]? = some y) : wf ws (i : Int) = y.1 := by unfold wf; rw [Int.toNat_natCast, h]; rfl
theorem wf_more {ws : List (Int × Int)} {w : Int} (y : Int × Int) (h0 : 0 ≤ w) (h : w < ws.length) : wf (ws ++ [y]) w = wf ws w := by
  unfold wf
  rw [List.getElem?_append_left (by omega)]
theorem wf_last (ws : List (Int × Int)) (y : Int × Int) : wf (ws ++ [y]) (ws.length : Int) = y.1 := by
  unfold wf
  rw [Int.toNat_natCast, List.getElem?_append_right (Nat.le_refl _)]
  simp
/-- the wants of a list, each with its time -/
def pr1 (s : St) (ws : List (Int × Int)) (r : Int × Int) (l : List Int) : List (Int × Int) := l.zip (tm s (bg r) (l.map (wf ws)))
/-- the wants of a plan, each with its time -/
def prs (s : St) (ws : List (Int × Int)) : List (Int × Int) → List (List Int) → List (Int × Int)
  | r :: cs, l :: p => pr1 s ws r l ++ prs s ws cs p
  | _, _ => []
/-- times are written where their wants are -/
def put : List Int → List (Int × Int) → List Int
  | o, [] => o
  | o, x :: q => put (o.set x.1.toNat x.2) q
/-- each want's time -/
def wts (s : St) (ws cs : List (Int × Int)) (p : List (List Int)) : List Int := put (List.replicate ws.length 0) (prs s ws cs p)
/-- what it costs -/
def cst (s : St) (ws cs : List (Int × Int)) (p : List (List Int)) : Int := ((prs s ws cs p).map (·.2)).sum

section
variable {s : St} {ws : List (Int × Int)}
theorem pr1_fst (r : Int × Int) (l : List Int) : (pr1 s ws r l).map (·.1) = l := by
  unfold pr1
  exact List.map_fst_zip (by rw [tm_length, List.length_map]; exact Nat.le_refl _)
theorem pr1_snd (r : Int × Int) (l : List Int) : (pr1 s ws r l).map (·.2) = tm s (bg r) (l.map (wf ws)) := by
  unfold pr1
  exact List.map_snd_zip (by rw [tm_length, List.length_map]; exact Nat.le_refl _)
theorem prs_fst : ∀ {cs : List (Int × Int)} {p : List (List Int)}, cs.length = p.length → (prs s ws cs p).map (·.1) = p.flatten
  | [], [], _ => rfl
  | [], _ :: _, h => by simp at h
  | _ :: _, [], h => by simp at h
  | r :: cs, l :: p, h => by
    show (pr1 s ws r l ++ prs s ws cs p).map (·.1) = _
    rw [List.map_append, pr1_fst, prs_fst (by simpa using h), List.flatten_cons]
theorem cst_cons (r : Int × Int) (l : List Int) (cs : List (Int × Int)) (p : List (List Int)) : cst s ws (r :: cs) (l :: p) = (tm s (bg r) (l.map (wf ws))).sum + cst s ws cs p := by
  show ((pr1 s ws r l ++ prs s ws cs p).map (·.2)).sum = _
  rw [List.map_append, List.sum_append, pr1_snd]; rfl
theorem cst_nil (cs : List (Int × Int)) : cst s ws cs [] = 0 := by cases cs <;> rfl
end

/- what is written -/
theorem put_length : ∀ (q : List (Int × Int)) (o : List Int), (put o q).length = o.length
  | [], _ => rfl
  | x :: q, o => by
    show (put (o.set x.1.toNat x.2) q).length = _
    rw [put_length q, List.length_set]
theorem put_append : ∀ (q r : List (Int × Int)) (o : List Int), put o (q ++ r) = put (put o q) r
  | [], _, _ => rfl
  | x :: q, r, o => put_append q r (o.set x.1.toNat x.2)
theorem put_far {w : Nat} : ∀ {q : List (Int × Int)} {o : List Int}, (∀ x ∈ q, x.1.toNat ≠ w) → (put o q)[w]? = o[w]?
  | [], _, _ => rfl
  | x :: q, o, h => by
    show (put (o.set x.1.toNat x.2) q)[w]? = _
    rw [put_far fun y hy => h y (by simp [hy]), List.getElem?_set_ne (h x (by simp))]
/-- each want once -/
def Once (q : List (Int × Int)) : Prop := q.Pairwise fun a b => a.1.toNat ≠ b.1.toNat
theorem put_get {w t : Int} : ∀ {q : List (Int × Int)} {o : List Int}, Once q → (w, t) ∈ q → w.toNat < o.length → (put o q)[w.toNat]? = some t
  | [], _, _, h, _ => by simp at h
  | x :: q, o, ho, h, hw => by
    obtain ⟨h1, h2⟩ := List.pairwise_cons.1 ho
    show (put (o.set x.1.toNat x.2) q)[w.toNat]? = _
    rcases List.mem_cons.1 h with h | h
    · subst h
      rw [put_far (fun y hy => Ne.symm (h1 y hy)), List.getElem?_set_self hw]
    · exact put_get h2 h (by rw [List.length_set]; exact hw)
theorem sum_set {t : Int} : ∀ {o : List Int} {i : Nat}, o[i]? = some 0 → (o.set i t).sum = o.sum + t
  | [], _, h => by simp at h
  | a :: o, 0, h => by
    simp at h
    subst h
    rw [List.set_cons_zero, List.sum_cons, List.sum_cons]; omega
  | a :: o, i + 1, h => by
    rw [List.set_cons_succ, List.sum_cons, List.sum_cons, sum_set (by simpa using h)]; omega
theorem put_sum : ∀ {q : List (Int × Int)} {o : List Int}, Once q → (∀ x ∈ q, o[x.1.toNat]? = some 0) → (put o q).sum = o.sum + (q.map (·.2)).sum
  | [], _, _, _ => by simp [put]
  | x :: q, o, ho, h => by
    obtain ⟨h1, h2⟩ := List.pairwise_cons.1 ho
    show (put (o.set x.1.toNat x.2) q).sum = _
    rw [put_sum h2 (fun y hy => by rw [List.getElem?_set_ne (h1 y hy)]; exact h y (by simp [hy])), sum_set (h x (by simp)), List.map_cons, List.sum_cons]
    omega
theorem sum_rep (n : Nat) : (List.replicate n (0 : Int)).sum = 0 := by
  induction n with
  | zero => rfl
  | succ n ih => rw [List.replicate_succ, List.sum_cons, ih]; rfl

/- of plans that may be -/
theorem fz_range {ms : List Nat} {p : List (List Int)} (h : PM.Fz ms p) : ∀ x ∈ p.flatten, 0 ≤ x ∧ x < ms.length := fun x hx => by
  obtain ⟨l, hl, hxl⟩ := List.mem_flatten.1 hx
  obtain ⟨c, hc⟩ := List.getElem?_of_mem hl
  have := PM.okx_iff.1 (h.ok c l hc x hxl)
  exact ⟨this.1, this.2.1⟩
theorem fz_nodup {ms : List Nat} {p : List (List Int)} (h : PM.Fz ms p) : p.flatten.Nodup := by
  rw [List.nodup_iff_count]
  intro x
  by_cases hx : x ∈ p.flatten
  · have hr := fz_range h x hx
    obtain ⟨w, rfl⟩ : ∃ w : Nat, x = (w : Int) := ⟨x.toNat, by omega⟩
    rw [h.once w (by omega)]; exact Nat.le_refl _
  · rw [List.count_eq_zero.2 hx]; omega
theorem once_of {q : List (Int × Int)} (h : (q.map (·.1)).Nodup) (h0 : ∀ x ∈ q, 0 ≤ x.1) : Once q := by
  unfold Once
  have h1 : q.Pairwise fun a b => a.1 ≠ b.1 := by
    have := h
    unfold List.Nodup at this
    rwa [List.pairwise_map] at this
  refine h1.imp_of_mem fun ha hb hne => ?_
  have := h0 _ ha
  have := h0 _ hb
  omega
section
variable {s : St} {ws cs : List (Int × Int)} {ms : List Nat} {p : List (List Int)}
theorem prs_mem (hl : cs.length = p.length) {x : Int × Int} (hx : x ∈ prs s ws cs p) : x.1 ∈ p.flatten := by
  rw [← prs_fst (s := s) (ws := ws) hl]
  exact List.mem_map.2 ⟨x, hx, rfl⟩
theorem prs_once (hf : PM.Fz ms p) (hl : cs.length = p.length) : Once (prs s ws cs p) :=
  once_of (by rw [prs_fst hl]; exact fz_nodup hf) fun x hx => (fz_range hf _ (prs_mem hl hx)).1
theorem wts_length : (wts s ws cs p).length = ws.length := by unfold wts; rw [put_length, List.length_replicate]
theorem wts_get (hf : PM.Fz ms p) (hm : ms.length = ws.length) (hl : cs.length = p.length) {w t : Int} (h : (w, t) ∈ prs s ws cs p) : (wts s ws cs p)[w.toNat]? = some t := by
  have := fz_range hf _ (prs_mem hl h)
  refine put_get (prs_once hf hl) h ?_
  rw [List.length_replicate]
  omega
/-- the cost is all times together -/
theorem wts_sum (hf : PM.Fz ms p) (hm : ms.length = ws.length) (hl : cs.length = p.length) : (wts s ws cs p).sum = cst s ws cs p := by
  unfold wts cst
  rw [put_sum (prs_once hf hl) (fun x hx => ?_), sum_rep, Int.zero_add]
  have := fz_range hf _ (prs_mem hl hx)
  rw [List.getElem?_replicate, if_pos (by omega)]
/-- each want stands somewhere -/
theorem prs_all (hf : PM.Fz ms p) (hl : cs.length = p.length) {w : Nat} (hw : w < ms.length) : ∃ t, ((w : Int), t) ∈ prs s ws cs p := by
  have h1 : (w : Int) ∈ p.flatten := List.count_pos_iff.1 (by rw [hf.once w hw]; omega)
  rw [← prs_fst (s := s) (ws := ws) hl] at h1
  obtain ⟨x, hx, e⟩ := List.mem_map.1 h1
  exact ⟨x.2, by rw [← e]; exact hx⟩
/-- the place of a want in a list -/
theorem prs_at : ∀ {cs : List (Int × Int)} {p : List (List Int)} {c i : Nat} {r : Int × Int} {l : List Int} {w : Int}, cs[c]? = some r → p[c]? = some l → l[i]? = some w → (w, ar s (go s (bg r) ((l.take i).map (wf ws))) (wf ws w)) ∈ prs s ws cs p
  | [], _, _, _, _, _, _, h, _, _ => by simp at h
  | _ :: _, [], _, _, _, _, _, _, h, _ => by simp at h
  | r0 :: cs, l0 :: p, 0, i, r, l, w, h1, h2, h3 => by
    simp at h1 h2
    subst h1 h2
    show _ ∈ pr1 s ws r0 l0 ++ prs s ws cs p
    refine List.mem_append_left _ ?_
    have hi := (List.getElem?_eq_some_iff.1 h3).1
    have h4 : (l0.map (wf ws))[i]? = some (wf ws w) := by rw [List.getElem?_map, h3]; rfl
    have h5 := tm_get (s := s) (a := bg r0) h4
    rw [← List.map_take] at h5
    refine List.mem_of_getElem? (i := i) ?_
    unfold pr1
    rw [List.getElem?_zip_eq_some]
    exact ⟨h3, h5⟩
  | r0 :: cs, l0 :: p, c + 1, i, r, l, w, h1, h2, h3 => List.mem_append_right _ (prs_at (cs := cs) (p := p) (by simpa using h1) (by simpa using h2) h3)
/-- where a want that has a time stands -/
theorem prs_where : ∀ {cs : List (Int × Int)} {p : List (List Int)} {w t : Int}, (w, t) ∈ prs s ws cs p → ∃ (c i : Nat) (r : Int × Int) (l : List Int), cs[c]? = some r ∧ p[c]? = some l ∧ l[i]? = some w ∧ t = ar s (go s (bg r) ((l.take i).map (wf ws))) (wf ws w)
  | [], _, _, _, h => by simp [prs] at h
  | _ :: _, [], _, _, h => by simp [prs] at h
  | r0 :: cs, l0 :: p, w, t, h => by
    rcases List.mem_append.1 (show _ ∈ pr1 s ws r0 l0 ++ prs s ws cs p from h) with h | h
    · obtain ⟨i, hi⟩ := List.getElem?_of_mem h
      unfold pr1 at hi
      rw [List.getElem?_zip_eq_some] at hi
      have h4 : (l0.map (wf ws))[i]? = some (wf ws w) := by rw [List.getElem?_map, hi.1]; rfl
      have h5 := tm_get (s := s) (a := bg r0) h4
      rw [← List.map_take, hi.2] at h5
      cases h5
      exact ⟨0, i, r0, l0, rfl, rfl, hi.1, rfl⟩
    · obtain ⟨c, i, r, l, h1, h2, h3, h4⟩ := prs_where h
      exact ⟨c + 1, i, r, l, by simpa using h1, by simpa using h2, h3, h4⟩
end

end RM
end Go.Proofs.Ytkcppidmbojglaf
