/- The best of all plans, want by want, at each place of each list: mathematics. No program is named here. -/
import Derived.Test.YtagmidolcdefiahPk7
namespace Go.Proofs.Ytagmidolcdefiah
/-- a want put into a list -/
def insw (l : List Int) (i : Nat) (w : Int) : List Int := l.take i ++ w :: l.drop i
/-- a plan with one want more, at each place of each list of a car that may serve it -/
def ino (s : Sn) (p : List (List Int)) (w : Int) : List (List (List Int)) :=
  (List.range s.cs.length).flatMap fun c => if mayk s c w = true then (List.range ((p[c]?.getD []).length + 1)).map fun i => p.set c (insw (p[c]?.getD []) i w) else []
/-- the least cost of the plans that hold these lists -/
def bst (s : Sn) : Nat → Nat → List (List Int) → Int
  | 0, _, p => RM.cst s.st s.ws s.cs p
  | r + 1, w, p => RM.lm ((ino s p (w : Int)).map (bst s r (w + 1)))
/-- the first wants alone -/
def rst (w : Int) (q : List (List Int)) : List (List Int) := q.map fun l => l.filter fun x => decide (x < w)
section
variable {s : Sn} {p q : List (List Int)}
theorem ino_mem {w : Int} {o : List (List Int)} : o ∈ ino s p w ↔ ∃ c i, c < s.cs.length ∧ mayk s c w = true ∧ i ≤ (p[c]?.getD []).length ∧ o = p.set c (insw (p[c]?.getD []) i w) := by
  unfold ino
  rw [List.mem_flatMap]
  constructor
  · rintro ⟨c, hc, ho⟩
    split at ho
    · rename_i hm
      obtain ⟨i, hi, rfl⟩ := List.mem_map.1 ho
      rw [List.mem_range] at hc hi
      exact ⟨c, i, hc, hm, by omega, rfl⟩
    · simp at ho
  · rintro ⟨c, i, hc, hm, hi, rfl⟩
    refine ⟨c, List.mem_range.2 hc, ?_⟩
    rw [if_pos hm]
    exact List.mem_map.2 ⟨i, List.mem_range.2 (by omega), rfl⟩
theorem insw_count (l : List Int) (i : Nat) (w x : Int) : (insw l i w).count x = l.count x + if w = x then 1 else 0 := by
  unfold insw
  rw [List.count_append, List.count_cons]
  have e : l.count x = (l.take i).count x + (l.drop i).count x := by rw [← List.count_append, List.take_append_drop]
  rw [e]
  by_cases h : w = x
  · simp [h]; omega
  · simp [h]
theorem insw_mem {l : List Int} {i : Nat} {w x : Int} (h : x ∈ insw l i w) : x = w ∨ x ∈ l := by
  unfold insw at h
  rcases List.mem_append.1 h with h | h
  · exact .inr (List.mem_of_mem_take h)
  · rcases List.mem_cons.1 h with h | h
    · exact .inl h
    · exact .inr (List.mem_of_mem_drop h)
theorem Pw.lt {w : Nat} (h : Pw s w p) {c : Nat} {l : List Int} (hl : p[c]? = some l) {x : Int} (hx : x ∈ l) : 0 ≤ x ∧ x < (w : Int) := by
  have hok := PM.okx_iff.1 (h.ok c l hl x hx)
  obtain ⟨v, rfl⟩ : ∃ v : Nat, x = (v : Int) := ⟨x.toNat, by omega⟩
  refine ⟨by omega, ?_⟩
  have hm : (v : Int) ∈ p.flatten := List.mem_flatten.2 ⟨l, List.mem_of_getElem? hl, hx⟩
  have := List.count_pos_iff.2 hm
  rw [h.cnt v] at this
  split at this
  · omega
  · omega
theorem Pw.ins {w c i : Nat} (h : Pw s w p) (hc : c < s.cs.length) (hw : w < s.ws.length) (hm : mayk s c (w : Int) = true) : Pw s (w + 1) (p.set c (insw (p[c]?.getD []) i (w : Int))) ∧ rst (w : Int) (p.set c (insw (p[c]?.getD []) i (w : Int))) = p := by
  have hcp : c < p.length := by rw [h.len]; exact hc
  have hml := msk_len s
  obtain ⟨l, hl⟩ : ∃ l, p[c]? = some l := ⟨_, List.getElem?_eq_getElem hcp⟩
  rw [hl, Option.getD_some]
  refine ⟨⟨by rw [List.length_set]; exact h.len, fun d m hd x hx => ?_, fun v => ?_⟩, ?_⟩
  · by_cases e : c = d
    · subst e
      rw [List.getElem?_set_self hcp] at hd
      cases hd
      rcases insw_mem hx with hx | hx
      · rw [hx]; exact PM.okx_iff.2 ⟨by omega, by omega, hm⟩
      · exact h.ok c l hl x hx
    · rw [List.getElem?_set_ne e] at hd
      exact h.ok d m hd x hx
  · have h1 := PM.count_flat_set (x := (v : Int)) (l' := insw l i (w : Int)) hl
    rw [insw_count] at h1
    have h2 := h.cnt v
    have h3 : ((w : Int) = (v : Int)) ↔ w = v := by omega
    by_cases e : w = v
    · rw [if_pos (h3.2 e)] at h1
      rw [if_neg (by omega)] at h2
      rw [if_pos (by omega)]
      omega
    · rw [if_neg (fun g => e (h3.1 g))] at h1
      by_cases h4 : v < w
      · rw [if_pos h4] at h2
        rw [if_pos (by omega)]
        omega
      · rw [if_neg h4] at h2
        rw [if_neg (by omega)]
        omega
  · refine List.ext_getElem? fun d => ?_
    unfold rst
    rw [List.getElem?_map]
    have keep : ∀ m : List Int, (∀ x ∈ m, x < (w : Int)) → m.filter (fun x => decide (x < (w : Int))) = m := fun m hm => List.filter_eq_self.2 fun x hx => decide_eq_true (hm x hx)
    by_cases e : c = d
    · subst e
      rw [List.getElem?_set_self hcp, hl, Option.map_some]
      congr 1
      unfold insw
      rw [List.filter_append, List.filter_cons, if_neg (by simp), ← List.filter_append, List.take_append_drop]
      exact keep l fun x hx => (h.lt hl hx).2
    · rw [List.getElem?_set_ne e]
      cases hd : p[d]? with
      | none => rfl
      | some m =>
        rw [Option.map_some, keep m fun x hx => (h.lt hd hx).2]
theorem rst_rst {w : Int} (q : List (List Int)) : rst w (rst (w + 1) q) = rst w q := by
  unfold rst
  rw [List.map_map]
  refine List.map_congr_left fun l _ => ?_
  show (l.filter _).filter _ = _
  rw [List.filter_filter]
  refine List.filter_congr fun x _ => ?_
  by_cases h : x < w
  · rw [decide_eq_true h, decide_eq_true (show x < w + 1 by omega)]; rfl
  · rw [decide_eq_false h]; rfl
/-- a plan's next want stands somewhere -/
theorem rst_step (hq : Fs s q) {w : Nat} (hw : w < s.ws.length) : rst ((w : Int) + 1) q ∈ ino s (rst (w : Int) q) (w : Int) := by
  have hml := msk_len s
  have hone := hq.fz.once w (by omega)
  have hmem : (w : Int) ∈ q.flatten := List.count_pos_iff.1 (by rw [hone]; omega)
  obtain ⟨l, hlq, hwl⟩ := List.mem_flatten.1 hmem
  obtain ⟨c, hc⟩ := List.getElem?_of_mem hlq
  have hcq := (List.getElem?_eq_some_iff.1 hc).1
  obtain ⟨A, C, hAC⟩ := List.append_of_mem hwl
  have hcnt : ∀ (d : Nat) m, q[d]? = some m → (m.count (w : Int) ≤ 1 ∧ (d ≠ c → (w : Int) ∉ m)) := fun d m hd => by
    have h1 := PM.count_flat_set (x := (w : Int)) (l' := []) hd
    simp at h1
    refine ⟨by omega, fun hdc hwm => ?_⟩
    have h2 := List.count_pos_iff.2 hwm
    have h3 : (w : Int) ∈ (q.set d []).flatten := List.mem_flatten.2 ⟨l, List.mem_of_getElem? (i := c) (by rw [List.getElem?_set_ne hdc]; exact hc), hwl⟩
    have h4 := List.count_pos_iff.2 h3
    omega
  have hcl := (hcnt c l hc).1
  rw [hAC, List.count_append, List.count_cons_self] at hcl
  have hwA : (w : Int) ∉ A := fun h => by have := List.count_pos_iff.2 h; omega
  have hwC : (w : Int) ∉ C := fun h => by have := List.count_pos_iff.2 h; omega
  have same : ∀ m : List Int, (w : Int) ∉ m → m.filter (fun x => decide (x < (w : Int) + 1)) = m.filter fun x => decide (x < (w : Int)) := fun m hm => List.filter_congr fun x hx => by
    have hne : x ≠ (w : Int) := fun e => hm (e ▸ hx)
    by_cases h : x < (w : Int)
    · rw [decide_eq_true h, decide_eq_true (by omega)]
    · rw [decide_eq_false h, decide_eq_false (by omega)]
  have hpc : (rst (w : Int) q)[c]? = some (A.filter (fun x => decide (x < (w : Int))) ++ C.filter fun x => decide (x < (w : Int))) := by
    unfold rst
    rw [List.getElem?_map, hc, Option.map_some, hAC, List.filter_append, List.filter_cons, if_neg (by simp)]
  refine ino_mem.2 ⟨c, (A.filter fun x => decide (x < (w : Int))).length, by have := hq.pc; omega, (PM.okx_iff.1 (hq.fz.ok c l hc (w : Int) hwl)).2.2, by rw [hpc, Option.getD_some, List.length_append]; omega, ?_⟩
  rw [hpc, Option.getD_some]
  refine List.ext_getElem? fun d => ?_
  by_cases e : c = d
  · subst e
    rw [List.getElem?_set_self (by unfold rst; rw [List.length_map]; exact hcq)]
    unfold rst insw
    rw [List.getElem?_map, hc, Option.map_some, hAC, List.filter_append, List.filter_cons, if_pos (decide_eq_true (by omega)), same A hwA, same C hwC, List.take_left, List.drop_left]
  · rw [List.getElem?_set_ne e]
    unfold rst
    rw [List.getElem?_map, List.getElem?_map]
    cases hd : q[d]? with
    | none => rfl
    | some m => rw [Option.map_some, Option.map_some, same m ((hcnt d m hd).2 fun h => e h.symm)]
theorem rst_all (hq : Fs s q) : rst (s.ws.length : Int) q = q := by
  unfold rst
  conv => rhs; rw [← List.map_id q]
  refine List.map_congr_left fun l hl => List.filter_eq_self.2 fun x hx => decide_eq_true ?_
  have := hq.fr x (List.mem_flatten.2 ⟨l, hl, hx⟩)
  exact this.2
theorem rst_none (hq : Fs s q) : rst ((0 : Nat) : Int) q = List.replicate s.cs.length [] := by
  unfold rst
  rw [hq.pc]
  refine List.eq_replicate_iff.2 ⟨by rw [List.length_map], fun l hl => ?_⟩
  obtain ⟨m, hm, rfl⟩ := List.mem_map.1 hl
  rw [List.filter_eq_nil_iff]
  intro x hx
  have := hq.fr x (List.mem_flatten.2 ⟨m, hm, hx⟩)
  simp
  omega
theorem bst_all (hr : rgt s = true) : ∀ (r w : Nat) (p : List (List Int)), w + r = s.ws.length → Pw s w p →
    (∃ q, fsb s q = true ∧ rst (w : Int) q = p ∧ RM.cst s.st s.ws s.cs q = bst s r w p) ∧ ∀ q, fsb s q = true → rst (w : Int) q = p → bst s r w p ≤ RM.cst s.st s.ws s.cs q
  | 0, w, p, hw, hp => by
    obtain rfl : w = s.ws.length := by omega
    have hf := hp.fsb hr
    refine ⟨⟨p, hf, rst_all (fsb_fs hf), rfl⟩, fun q hq e => ?_⟩
    rw [rst_all (fsb_fs hq)] at e
    rw [e]; exact Int.le_refl _
  | r + 1, w, p, hw, hp => by
    have ih := fun o => bst_all hr r (w + 1) o (by omega)
    have hopt : ∀ o ∈ ino s p (w : Int), Pw s (w + 1) o ∧ rst (w : Int) o = p := fun o ho => by
      obtain ⟨c, i, hc, hm, _, rfl⟩ := ino_mem.1 ho
      exact hp.ins hc (by omega) hm
    have hne : (ino s p (w : Int)).map (bst s r (w + 1)) ≠ [] := by
      obtain ⟨c, hc, hm⟩ := has_car hr (w := w) (by omega)
      have : p.set c (insw (p[c]?.getD []) 0 (w : Int)) ∈ ino s p (w : Int) := ino_mem.2 ⟨c, 0, hc, hm, Nat.zero_le _, rfl⟩
      intro e
      rw [List.map_eq_nil_iff] at e
      rw [e] at this
      simp at this
    have hlow := RM.low_mem hne
    rw [← RM.lm_low hne] at hlow
    have hbs : bst s (r + 1) w p = RM.lm ((ino s p (w : Int)).map (bst s r (w + 1))) := rfl
    rw [hbs]
    have hcast : (((w + 1 : Nat)) : Int) = (w : Int) + 1 := by omega
    refine ⟨?_, fun q hq e => ?_⟩
    · obtain ⟨o, ho, e⟩ := List.mem_map.1 hlow.1
      obtain ⟨q, h1, h2, h3⟩ := (ih o (hopt o ho).1).1
      refine ⟨q, h1, ?_, by rw [h3, e]⟩
      rw [← rst_rst, ← hcast, h2, (hopt o ho).2]
    · have hst := rst_step (fsb_fs hq) (w := w) (by omega)
      rw [e] at hst
      have h1 := (ih _ (hopt _ hst).1).2 q hq (by rw [hcast])
      have h2 := hlow.2 _ (List.mem_map.2 ⟨_, hst, rfl⟩)
      omega
/-- the least cost of all plans, so reckoned -/
theorem bst_best (hr : rgt s = true) : Best s (bst s s.ws.length 0 (List.replicate s.cs.length [])) := by
  obtain ⟨⟨q, h1, _, h3⟩, h4⟩ := bst_all hr s.ws.length 0 _ (by omega) (Pw.zero s)
  exact ⟨⟨q, h1, h3⟩, fun q hq => h4 q hq (rst_none (fsb_fs hq))⟩
end
end Go.Proofs.Ytagmidolcdefiah
