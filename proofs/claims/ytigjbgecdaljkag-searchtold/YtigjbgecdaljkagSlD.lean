/- A region whose head reads and calls, and whose end is walked in every order; bytes as strings. -/
import Derived.Test.YtigjbgecdaljkagSlB
import Derived.Test.YtigjbgecdaljkagPk9
namespace Go.Proofs.Ytigjbgecdaljkag
open Go.RowKit Go.Shelf

section
variable {P : Program} {md : Region.Mode} {ops : Array Oper} {W0 : World}
/-- what is behind the head waits for something behind the head, or is its end -/
def chain2B (md : Region.Mode) (ops : Array Oper) (n : Nat) : Bool :=
  (List.range ops.size).all fun t => decide (t ≤ n) || (List.range t).any fun j => decide (n ≤ j) && Region.waitsFor md ops t j
theorem tail_waits2 {n : Nat} {listed : Array Bool} (hs : Region.sinkB md ops n = true) (hc : chain2B md ops n = true) (inv : HeadInv md ops n listed) :
    ∀ (d i : Nat), n - i = d → i < n → listed.getD i true = false → ∀ t, n ≤ t → t ∉ Region.ready md ops listed := by
  intro d
  induction d using Nat.strongRecOn with
  | _ d ih =>
    intro i hd hi hun t ht hr
    obtain ⟨_, ot, hot, hall⟩ := mem_ready.1 hr
    have htlt : t < ops.size := (Array.getElem?_eq_some_iff.1 hot).1
    by_cases htn : t = n
    · subst htn
      have h1 := List.all_eq_true.1 hs i (List.mem_range.2 hi)
      obtain ⟨j, hj, hj2⟩ := List.any_eq_true.1 h1
      simp only [Bool.and_eq_true, decide_eq_true_eq] at hj2
      obtain ⟨oj, hoj, e, he, hb, hon⟩ := Region.waitsFor_spec hj2.2
      have hjle : j ≤ t := by have := List.mem_range.1 hj; omega
      by_cases hjt : j = t
      · subst hjt
        have : oj = ot := Option.some.inj (hoj.symm.trans hot)
        subst this
        have h2 := hall e he hb
        rw [hon, getD_both hun] at h2
        cases h2
      · cases hl : listed.getD j false with
        | true =>
          have h2 := inv.closed j oj hoj hl e he hb
          rw [hon, getD_both hun] at h2
          cases h2
        | false =>
          have hjs : j < listed.size := by rw [inv.size]; omega
          exact ih (t - j) (by omega) j rfl (by omega) (getD_in hjs hl) t (Nat.le_refl _) hr
    · have h1 := List.all_eq_true.1 hc t (List.mem_range.2 htlt)
      simp only [Bool.or_eq_true, decide_eq_true_eq] at h1
      rcases h1 with h1 | h1
      · omega
      · obtain ⟨j, hj, hj2⟩ := List.any_eq_true.1 h1
        simp only [Bool.and_eq_true, decide_eq_true_eq] at hj2
        have hjt := List.mem_range.1 hj
        obtain ⟨o', ho', e, he, hb, hon⟩ := Region.waitsFor_spec hj2.2
        have : o' = ot := Option.some.inj (ho'.symm.trans hot)
        subst this
        have h2 := hall e he hb
        rw [hon, getD_both (inv.tail j hj2.1 (by omega))] at h2
        cases h2
/-- whatever order is drawn for the head -/
theorem any_head {Q : Act → Prop} {Q' : Exit → Act → World → Prop} {m g : Nat} (hB : headB md ops m = true) (hmo : m < ops.size)
    (hsink : Region.sinkB md ops m = true) (hchain : chain2B md ops m = true)
    (hend : ∀ a w, Below W0.heap.size W0 w → Q a → wpAny P md ops Q' g (upto ops m) a w) :
    ∀ (c : Nat) (ls : Array Bool) (done : Nat → Bool) (a : Act) (w : World) (f : Nat), left ls m = c → (∀ i, i < m → ls.getD i false = done i) → HeadInv md ops m ls → (∀ t, m ≤ t → ls.getD t false = false) → Below W0.heap.size W0 w →
      AnyF P md ops W0 m Q f done a → wpAny P md ops Q' (c + g) ls a w := by
  intro c
  induction c with
  | zero =>
    intro ls done a w f hc hd inv ht hs hF
    have hall := left_none hc
    obtain rfl := upto_of inv.size hall ht
    cases f with
    | zero => rw [Nat.zero_add]; exact hend a w hs hF.2
    | succ f =>
      obtain ⟨i, hi, hf, _⟩ := hF.1
      rw [← hd i hi, hall i (by omega)] at hf
      cases hf
  | succ c ih =>
    intro ls done a w f hc hd inv ht hs hF
    obtain ⟨i0, hi0, hu0⟩ := left_some (ls := ls) (m := m) (by omega)
    have hsz0 : i0 < ls.size := by rw [inv.size]; omega
    have notail : ∀ i ∈ Region.ready md ops ls, i < m := fun i hi => by
      rcases Nat.lt_or_ge i m with h | h
      · exact h
      · exact absurd hi (tail_waits2 hsink hchain inv _ i0 rfl hi0 (getD_in hsz0 hu0) i h)
    rw [show c + 1 + g = (c + g) + 1 by omega]
    refine ⟨fun hnil => ?_, fun i hi => ?_⟩
    · exfalso
      cases f with
      | zero =>
        have := hF.1 i0 hi0
        rw [← hd i0 hi0, hu0] at this
        cases this
      | succ f =>
        obtain ⟨i, hi, hf, o, ho, hall⟩ := hF.1
        have : i ∈ Region.ready md ops ls := mem_ready.2 ⟨getD_in (by rw [inv.size]; exact (Array.getElem?_eq_some_iff.1 ho).1) (by rw [hd i hi]; exact hf), o, ho, fun e he hb => by
          rw [hd e.on (by have := headB_on hB hi ho e he hb; omega)]; exact hall e he hb⟩
        rw [hnil] at this
        cases this
    · have him := notail i hi
      obtain ⟨hun, o, ho, hall⟩ := mem_ready.1 hi
      have hu := getD_both hun
      have hsz : i < ls.size := by rw [inv.size]; omega
      have hc' : left (ls.setIfInBounds i true) m = c := by have := left_set hsz hu him; omega
      have hr : rdy md ops m done i := ⟨him, by rw [← hd i him]; exact hu, o, ho, fun e he hb => by
        rw [← hd e.on (by have := headB_on hB him ho e he hb; omega)]; exact hall e he hb⟩
      cases f with
      | zero =>
        have := hF.1 i him
        rw [hr.2.1] at this
        cases this
      | succ f =>
        obtain ⟨v, hy, hn⟩ := hF.2 i o ho hr
        have hd' : ∀ k, k < m → (ls.setIfInBounds i true).getD k false = more done i k := fun k hk => by
          by_cases hki : k = i
          · subst hki; rw [getD_set_self hsz]; unfold more; rw [if_pos rfl]
          · rw [getD_set_ne false (Ne.symm hki), more_ne hki]; exact hd k hk
        have go : ∀ w2, Below w.heap.size w w2 → wpAny P md ops Q' (c + g) (ls.setIfInBounds i true) (a.put o.dst v) w2 := fun w2 hb =>
          ih _ _ _ w2 f hc' hd' (inv.set hi him) (fun t h => by rw [getD_set_ne false (by omega)]; exact ht t h) (below_class hs hb) hn
        unfold wpOp
        rw [ho]
        simp only
        rcases hy with ⟨hw, hq⟩ | ⟨hw, rfl⟩
        · rw [if_pos hw]
          exact .inl (wp_of_calm (v := v) (hq w hs) go)
        · rw [if_neg (by rw [hw]; simp)]
          exact go w (Below.refl _ _)
def headOnlyB (md : Region.Mode) (ops : Array Oper) (m : Nat) : Bool :=
  Region.noSelect ops && headB md ops m && decide (m < ops.size) && Region.sinkB md ops m && chain2B md ops m
end
theorem wp_region_head {P : Program} {id : Nat} {Q : Exit → Act → World → Prop} {a : Act} {w : World} {l : List Oper} (m : Nat) (hm : P.follows .mixedOrders = true) (hB : headOnlyB .any l.toArray m = true)
    (h : wpCalm P l.toArray w.drew (fun a' => ∀ w', Below w.drew.heap.size w.drew w' → wpAny P .any l.toArray Q (l.toArray.size - m) (upto l.toArray m) a' w') (l.take m) a) :
    (Code.region id l.toArray true).wp P Q a w := by
  simp only [headOnlyB, Bool.and_eq_true, decide_eq_true_eq] at hB
  obtain ⟨⟨⟨⟨hsel, hhead⟩, hmo⟩, hsink⟩, hchain⟩ := hB
  have hmo' : m < l.length := by simpa using hmo
  have htl : (l.take m).length = m := by simp; omega
  have inv0 : HeadInv .any l.toArray m (Array.replicate l.toArray.size false) :=
    ⟨by simp, fun j oj _ hl => (by rw [getD_replicate_false] at hl; cases hl), fun t _ ht => getD_in (by simpa using ht) (getD_replicate_false _ _)⟩
  have H := anyF_lex (md := .any) (n := m) hsel hhead (l.take m) 0 a (fun j hj => by
    have hj' : j < m := by rw [htl] at hj; exact hj
    simp [hj']) (by simpa using htl) h
  rw [htl] at H
  have hl0 : left (Array.replicate l.toArray.size false) m = m := by
    have : ∀ k, left (Array.replicate l.toArray.size false) k = k := fun k => by
      induction k with
      | zero => rfl
      | succ k ih => unfold left; rw [ih, getD_replicate_false]; simp
    exact this m
  refine wp_region_any hm ?_
  have := any_head (md := .any) (W0 := w.drew) (Q' := Q) (g := l.toArray.size - m) hhead hmo hsink hchain (fun a' w' hs hQ => hQ w' hs) m (Array.replicate l.toArray.size false) (fun j => decide (j < 0)) a w.drew m hl0 (fun i _ => by rw [getD_replicate_false]; simp) inv0 (fun t _ => getD_replicate_false _ _) (Below.refl _ _) H
  rw [show m + (l.toArray.size - m) = l.toArray.size by omega] at this
  exact this
section
variable {W0 : World} {K : Act → Prop} {o : Oper} {a : Act}
theorem calm_cell4 (x : Operand) (b k : Nat) {v : Value} (ho : o.op = .load 4 x) (hx : a.eval x = .pointer (some ⟨b, k, none⟩)) (hr : ∀ w, Below W0.heap.size W0 w → w.cell? ⟨b, k, none⟩ = some v) (h : K (a.put o.dst v)) : Oper.calm Try.prog W0 o a K :=
  calm_val _ (fun w hw => by
    have hl : (Instr.loadAt 4 (.pointer (some ⟨b, k, none⟩))).run Try.prog w = .ok v w := by simp [go_sem, hr w hw]
    unfold execOp; simp only [ho, hx, Sem.run_bind, Sem.run_pure, Result.andThen_ok, hl]) h
theorem calm_cellP (x : Operand) (b k : Nat) {v : Value} (ho : o.op = .load 29 x) (hx : a.eval x = .pointer (some ⟨b, k, none⟩)) (hr : ∀ w, Below W0.heap.size W0 w → w.cell? ⟨b, k, none⟩ = some v) (h : K (a.put o.dst v)) : Oper.calm Try.prog W0 o a K :=
  calm_val _ (fun w hw => by
    have hl : (Instr.loadAt 29 (.pointer (some ⟨b, k, none⟩))).run Try.prog w = .ok v w := by simp [go_sem, hr w hw]
    unfold execOp; simp only [ho, hx, Sem.run_bind, Sem.run_pure, Result.andThen_ok, hl]) h
end
theorem wpOp_loadY {ops : Array Oper} {Q : Exit → Act → World → Prop} {i : Nat} {o : Oper} {K : Act → World → Prop} {a : Act} {w : World} (hi : ops[i]? = some o) (hw : Region.wanted o (yielded ops a.tmps) = true) (x : Operand) (ho : o.op = .load 46 x)
    (b f : Nat) (v : Value) (hx : a.eval x = .pointer (some ⟨b, f, none⟩)) (hr : w.cell? ⟨b, f, none⟩ = some v) (h : K (a.put o.dst v) w) : wpOp Try.prog ops Q i K a w :=
  wpOp_val hi hw (by
    have hl : (Instr.loadAt 46 (.pointer (some ⟨b, f, none⟩))).run Try.prog w = .ok v w := by simp [go_sem, hr]
    unfold execOp; simp only [ho, Sem.run_bind, Sem.run_pure, Result.andThen_ok, hx, hl]) h
theorem wpOp_convY {ops : Array Oper} {Q : Exit → Act → World → Prop} {i : Nat} {o : Oper} {K : Act → World → Prop} {a : Act} {w : World} (hi : ops[i]? = some o) (hw : Region.wanted o (yielded ops a.tmps) = true) (x : Operand) (ho : o.op = .convert 46 9 x)
    {B g n cap : Nat} {l : List Nat} (hx : a.eval x = .slice (some ⟨g, 0, none⟩) n cap) (hr : OY w B (.slice (some ⟨g, 0, none⟩) n cap) l) (h : K (a.put o.dst (stv l)) w) : wpOp Try.prog ops Q i K a w :=
  wpOp_val hi hw (by
    unfold execOp; simp only [ho, Sem.run_bind, Sem.run_pure, Result.andThen_ok, hx, convY hr]) h

end Go.Proofs.Ytigjbgecdaljkag
