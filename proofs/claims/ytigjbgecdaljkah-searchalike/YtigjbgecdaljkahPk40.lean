/- Several texts in one, each with its own head. -/
import Derived.Test.YtigjbgecdaljkahSlA
import Derived.Test.YtigjbgecdaljkahPk27
import Derived.Test.YtigjbgecdaljkahPk9
import Derived.Test.YtigjbgecdaljkahPk13
import Derived.Test.YtigjbgecdaljkahPk14
/- Steps of the laws on searches. -/
namespace Go.Proofs.Ytigjbgecdaljkah
open Go.RowKit Go.Shelf

section
variable {C : World → Prop} {K : Act → Prop} {o : Oper} {a : Act}
theorem quiet_cell3 (x : Operand) (b k : Nat) {v : Value} (ho : o.op = .load 3 x) (hx : a.eval x = .pointer (some ⟨b, k, none⟩)) (hr : ∀ w, C w → w.cell? ⟨b, k, none⟩ = some v) (h : K (a.put o.dst v)) : o.quiet Try.prog a C K :=
  quiet_val _ (fun w hw => by
    have hl : (Instr.loadAt 3 (.pointer (some ⟨b, k, none⟩))).run Try.prog w = .ok v w := by simp [go_sem, hr w hw]
    unfold execOp; simp only [ho, hx, Sem.run_bind, Sem.run_pure, Result.andThen_ok, hl]) h
theorem quiet_cell4 (x : Operand) (b k : Nat) {v : Value} (ho : o.op = .load 4 x) (hx : a.eval x = .pointer (some ⟨b, k, none⟩)) (hr : ∀ w, C w → w.cell? ⟨b, k, none⟩ = some v) (h : K (a.put o.dst v)) : o.quiet Try.prog a C K :=
  quiet_val _ (fun w hw => by
    have hl : (Instr.loadAt 4 (.pointer (some ⟨b, k, none⟩))).run Try.prog w = .ok v w := by simp [go_sem, hr w hw]
    unfold execOp; simp only [ho, hx, Sem.run_bind, Sem.run_pure, Result.andThen_ok, hl]) h
theorem quiet_cellP (x : Operand) (b k : Nat) {v : Value} (ho : o.op = .load 32 x) (hx : a.eval x = .pointer (some ⟨b, k, none⟩)) (hr : ∀ w, C w → w.cell? ⟨b, k, none⟩ = some v) (h : K (a.put o.dst v)) : o.quiet Try.prog a C K :=
  quiet_val _ (fun w hw => by
    have hl : (Instr.loadAt 32 (.pointer (some ⟨b, k, none⟩))).run Try.prog w = .ok v w := by simp [go_sem, hr w hw]
    unfold execOp; simp only [ho, hx, Sem.run_bind, Sem.run_pure, Result.andThen_ok, hl]) h
end

end Go.Proofs.Ytigjbgecdaljkah

/- Parts of lists; a pair that is typed; a bit. -/
namespace Go.Proofs.Ytigjbgecdaljkah
open Go.RowKit

/-- the first numbers of a list -/
theorem RI.cut {D : Nat → Prop} {W : World} {a : Option Addr} {n cap j : Nat} {l : List Int} (h : RI D W (.slice a n cap) l) (hj : j ≤ l.length) : RI D W (.slice a j cap) (l.take j) := by
  obtain ⟨a', c, e, h1, h2, h3⟩ := h
  cases e
  have hlen : (l.take j).length = j := by rw [List.length_take]; omega
  refine ⟨_, _, by rw [hlen], by omega, h2, ?_⟩
  rcases h3 with h3 | ⟨g', o', e, hd, hlt, h4⟩
  · left; rw [h3]; simp
  · cases e
    exact .inr ⟨g', o', rfl, hd, hlt, fun i x hx => h4 i x (by
      rw [List.getElem?_take] at hx
      split at hx
      · exact hx
      · cases hx)⟩
theorem slice_cut (aa : Option Addr) (La ac n : Nat) (w : World) (hn : n ≤ ac) : (Instr.sliceAt 42 (.slice aa La ac) none (some (.int .i64 (n : Int))) none).run Try.prog w = .ok (.slice aa n ac) w := by
  have h1 : (n : Int) ≤ (ac : Int) := by omega
  cases aa <;> simp [go_sem, h1]
theorem calm_cut {W0 : World} {K : Act → Prop} {o : Oper} {a : Act} (x y : Operand) {aa : Option Addr} {n cap j : Nat} (ho : o.op = .slice 42 x none (some y) none) (hx : a.eval x = .slice aa n cap) (hy : a.eval y = .int .i64 (j : Int)) (hj : j ≤ cap)
    (h : K (a.put o.dst (.slice aa j cap))) : Oper.calm Try.prog W0 o a K :=
  calm_val _ (fun w hw => by unfold execOp; simp only [ho, hx, hy, Option.map_none, Option.map_some, Sem.run_bind, Sem.run_pure, Result.andThen_ok, slice_cut aa n cap j w hj]) h
/-- where the rest of a row begins -/
def restA (a : Option Addr) (cap j : Nat) : Option Addr := if cap = j then a else a.map fun x => x.add j
/-- the last numbers of a list -/
theorem RI.rest {D : Nat → Prop} {W : World} {a : Option Addr} {n cap j : Nat} {l : List Int} (h : RI D W (.slice a n cap) l) (hj : j ≤ l.length) : RI D W (.slice (restA a cap j) (n - j) (cap - j)) (l.drop j) := by
  obtain ⟨a', c, e, h1, h2, h3⟩ := h
  cases e
  have hlen : (l.drop j).length = l.length - j := List.length_drop
  refine ⟨_, _, by rw [hlen], by omega, fun e => by
    unfold restA at e
    split at e
    · omega
    · cases a with
      | none => have := h2 rfl; omega
      | some x => simp at e, ?_⟩
  by_cases hcj : cap = j
  · left
    rw [List.drop_eq_nil_iff]; omega
  · rcases h3 with h3 | ⟨g', o', e, hd, hlt, h4⟩
    · left; rw [h3]; simp
    · cases e
      refine .inr ⟨g', o' + j, by unfold restA; rw [if_neg hcj, Option.map_some, Addr.add_mid], hd, hlt, fun i x hx => ?_⟩
      rw [List.getElem?_drop] at hx
      rw [Nat.add_assoc]
      exact h4 (j + i) x hx
theorem slice_rest (aa : Option Addr) (La ac n : Nat) (w : World) (hn : n ≤ La) : (Instr.sliceAt 42 (.slice aa La ac) (some (.int .i64 (n : Int))) none none).run Try.prog w = .ok (.slice (restA aa ac n) (La - n) (ac - n)) w := by
  have h1 : (n : Int) ≤ (La : Int) := by omega
  unfold restA
  cases aa with
  | none => simp [go_sem, h1]
  | some x =>
    by_cases e : ac = n
    · simp [go_sem, h1, e]
    · simp [go_sem, h1, e]
theorem calm_rest {W0 : World} {K : Act → Prop} {o : Oper} {a : Act} (x y : Operand) {aa : Option Addr} {n cap j : Nat} (ho : o.op = .slice 42 x (some y) none none) (hx : a.eval x = .slice aa n cap) (hy : a.eval y = .int .i64 (j : Int)) (hj : j ≤ n)
    (h : K (a.put o.dst (.slice (restA aa cap j) (n - j) (cap - j)))) : Oper.calm Try.prog W0 o a K :=
  calm_val _ (fun w hw => by unfold execOp; simp only [ho, hx, hy, Option.map_none, Option.map_some, Sem.run_bind, Sem.run_pure, Result.andThen_ok, slice_rest aa n cap j w hj]) h
theorem shl_any (c : Nat) (hc : c ≤ 7) (W : World) : (binOp .shl 3 (.int .i64 1) (.int .i64 (c : Int))).run Try.prog W = .ok (.int .i64 ((2 ^ c : Nat) : Int)) W := by
  match c, hc with
  | 0, _ => rfl
  | 1, _ => rfl
  | 2, _ => rfl
  | 3, _ => rfl
  | 4, _ => rfl
  | 5, _ => rfl
  | 6, _ => rfl
  | 7, _ => rfl
  | n + 8, h => omega
theorem calm_shl {W0 : World} {K : Act → Prop} {o : Oper} {a : Act} (x y : Operand) {t : TypeId} {c : Nat} (ho : o.op = .binOp .shl 3 x y t) (hx : a.eval x = .int .i64 1) (hy : a.eval y = .int .i64 (c : Int)) (hc : c ≤ 7)
    (h : K (a.put o.dst (.int .i64 ((2 ^ c : Nat) : Int)))) : Oper.calm Try.prog W0 o a K :=
  calm_val _ (fun w hw => by unfold execOp; simp only [ho, hx, hy, eqGuard, ite_self, Sem.run_bind, Sem.run_pure, Result.andThen_ok, shl_any c hc w]) h
theorem loadLW (w : World) (b o : Nat) (v : Value) (h : w.cell? ⟨b, o, none⟩ = some v) : (Instr.loadAt 25 (.pointer (some ⟨b, o, none⟩))).run Try.prog w = .ok v w := by simp [go_sem, h]
theorem calm_loadLW {W0 : World} {K : Act → Prop} {o : Oper} {a : Act} (x : Operand) (b k : Nat) {v : Value} (ho : o.op = .load 25 x) (hx : a.eval x = .pointer (some ⟨b, k, none⟩)) (hr : ∀ w, Below W0.heap.size W0 w → w.cell? ⟨b, k, none⟩ = some v)
    (h : K (a.put o.dst v)) : Oper.calm Try.prog W0 o a K :=
  calm_val _ (fun w hw => by unfold execOp; simp only [ho, hx, Sem.run_bind, Sem.run_pure, Result.andThen_ok, loadLW w b k v (hr w hw)]) h
theorem o2_one {t : TypeId} {B : Nat} (W : World) (x y : Int) (hB : B ≤ W.heap.size) : O2 t (W.alloc (.cells #[.int .i64 x, .int .i64 y] t)) B (.slice (some ⟨W.heap.size, 0, none⟩) 1 1) [(x, y)] := by
  have := World.ownsRow_lit (e := t) (size := 2) (base := B) W #[.int .i64 x, .int .i64 y] 1 hB (by unfold maxLen; omega) (by simp)
  unfold O2
  simpa [pc] using this
theorem bt_own {c : Nat} : PM.bt (2 ^ c) c = true := by
  unfold PM.bt
  rw [Nat.div_self (Nat.pow_pos (by decide))]
  rfl

end Go.Proofs.Ytigjbgecdaljkah

/- Parts of rows of wants. -/
namespace Go.Proofs.Ytigjbgecdaljkah
open Go.RowKit

theorem R2.cut {D : Nat → Prop} {W : World} {a : Option Addr} {n cap j : Nat} {l : List (Int × Int)} (h : R2 D W (.slice a n cap) l) (hj : j ≤ l.length) : R2 D W (.slice a j cap) (l.take j) := by
  obtain ⟨a', c, e, h1, h2, h3⟩ := h
  cases e
  have hlen : (l.take j).length = j := by rw [List.length_take]; omega
  refine ⟨_, _, by rw [hlen], by omega, h2, ?_⟩
  rcases h3 with h3 | ⟨g', o', e, hd, hlt, h4⟩
  · left; rw [h3]; simp
  · cases e
    exact .inr ⟨g', o', rfl, hd, hlt, fun i x hx => h4 i x (by
      rw [List.getElem?_take] at hx
      split at hx
      · exact hx
      · cases hx)⟩
/-- where the rest of a row of pairs begins -/
def rest2 (a : Option Addr) (cap j : Nat) : Option Addr := if cap = j then a else a.map fun x => x.add (j * 2)
theorem R2.rest {D : Nat → Prop} {W : World} {a : Option Addr} {n cap j : Nat} {l : List (Int × Int)} (h : R2 D W (.slice a n cap) l) (hj : j ≤ l.length) : R2 D W (.slice (rest2 a cap j) (n - j) (cap - j)) (l.drop j) := by
  obtain ⟨a', c, e, h1, h2, h3⟩ := h
  cases e
  have hlen : (l.drop j).length = l.length - j := List.length_drop
  refine ⟨_, _, by rw [hlen], by omega, fun e => by
    unfold rest2 at e
    split at e
    · omega
    · cases a with
      | none => have := h2 rfl; omega
      | some x => simp at e, ?_⟩
  by_cases hcj : cap = j
  · left
    rw [List.drop_eq_nil_iff]; omega
  · rcases h3 with h3 | ⟨g', o', e, hd, hlt, h4⟩
    · left; rw [h3]; simp
    · cases e
      refine .inr ⟨g', o' + j * 2, by unfold rest2; rw [if_neg hcj, Option.map_some, Addr.add_mid], hd, hlt, fun i x hx => ?_⟩
      rw [List.getElem?_drop] at hx
      have := h4 (j + i) x hx
      rw [Nat.add_mul, ← Nat.add_assoc] at this
      exact this
theorem slice_cutW (aa : Option Addr) (La ac n : Nat) (w : World) (hn : n ≤ ac) : (Instr.sliceAt 25 (.slice aa La ac) none (some (.int .i64 (n : Int))) none).run Try.prog w = .ok (.slice aa n ac) w := by
  have h1 : (n : Int) ≤ (ac : Int) := by omega
  cases aa <;> simp [go_sem, h1]
theorem calm_cutW {W0 : World} {K : Act → Prop} {o : Oper} {a : Act} (x y : Operand) {aa : Option Addr} {n cap j : Nat} (ho : o.op = .slice 25 x none (some y) none) (hx : a.eval x = .slice aa n cap) (hy : a.eval y = .int .i64 (j : Int)) (hj : j ≤ cap)
    (h : K (a.put o.dst (.slice aa j cap))) : Oper.calm Try.prog W0 o a K :=
  calm_val _ (fun w hw => by unfold execOp; simp only [ho, hx, hy, Option.map_none, Option.map_some, Sem.run_bind, Sem.run_pure, Result.andThen_ok, slice_cutW aa n cap j w hj]) h
theorem slice_restW (aa : Option Addr) (La ac n : Nat) (w : World) (hn : n ≤ La) : (Instr.sliceAt 25 (.slice aa La ac) (some (.int .i64 (n : Int))) none none).run Try.prog w = .ok (.slice (rest2 aa ac n) (La - n) (ac - n)) w := by
  have h1 : (n : Int) ≤ (La : Int) := by omega
  unfold rest2
  cases aa with
  | none => simp [go_sem, h1]
  | some x =>
    by_cases e : ac = n
    · simp [go_sem, h1, e]
    · simp [go_sem, h1, e]
theorem calm_restW {W0 : World} {K : Act → Prop} {o : Oper} {a : Act} (x y : Operand) {aa : Option Addr} {n cap j : Nat} (ho : o.op = .slice 25 x (some y) none none) (hx : a.eval x = .slice aa n cap) (hy : a.eval y = .int .i64 (j : Int)) (hj : j ≤ n)
    (h : K (a.put o.dst (.slice (rest2 aa cap j) (n - j) (cap - j)))) : Oper.calm Try.prog W0 o a K :=
  calm_val _ (fun w hw => by unfold execOp; simp only [ho, hx, hy, Option.map_none, Option.map_some, Sem.run_bind, Sem.run_pure, Result.andThen_ok, slice_restW aa n cap j w hj]) h

end Go.Proofs.Ytigjbgecdaljkah

/- Snapshots that are copied and changed. -/
namespace Go.Proofs.Ytigjbgecdaljkah
open Go.RowKit

/- a snapshot's block that is written -/
theorem nv_one (s : St) {vc vw : Value} (h1 : vc.oneCell' = true) (h2 : vw.oneCell' = true) : ∀ u ∈ nv s vc vw, u.oneCell' = true := by
  intro u hu
  simp only [nv, List.mem_cons, List.not_mem_nil, or_false] at hu
  rcases hu with h | h | h | h | h | h | h | h | h | h | h | h | h | h | h
  all_goals rw [h]
  all_goals first | rfl | assumption
theorem wpList_store27 {ops : Array Oper} {rest : List Oper} {op : Oper} {a : Act} {w : World} {Q : Exit → Act → World → Prop} (hgd : op.guard = none) (x y : Operand) (ho : op.op = .store 27 x y)
    (b : Nat) {s : St} {vc vw : Value} (old : Array Value) (hx : a.eval x = .pointer (some ⟨b, 0, none⟩)) (hy : a.eval y = .agg (nv s vc vw).toArray) (h1 : vc.oneCell' = true) (h2 : vw.oneCell' = true) (hL : w.heap[b]? = some (.cells old 27 (0, 0))) (hs : old.size = 15)
    (hn : ∀ W', Kp (fun k => k = b) w W' → NB W' b s vc vw → wpList Try.prog ops Q rest (a.put op.dst undef) W') : wpList Try.prog ops Q (op :: rest) a w :=
  wpList_store_row hgd 27 x y ho b _ hx hy _ _ hL info27 (by rw [hs]; rfl) (by simpa using nv_one s h1 h2) (hn _ (kp_row b w _) (setRow_heap w b _ _ _ _ hL))
theorem NB.putc {W : World} {b : Nat} {s : St} {vc vw : Value} (h : NB W b s vc vw) (v : Value) : NB (W.setCell ⟨b, 13, none⟩ v) b s v vw := by
  have := heap_setCell_same W b 13 _ 27 v h
  exact this
theorem NB.putw {W : World} {b : Nat} {s : St} {vc vw : Value} (h : NB W b s vc vw) (v : Value) : NB (W.setCell ⟨b, 14, none⟩ v) b s vc v := by
  have := heap_setCell_same W b 14 _ 27 v h
  exact this
theorem NB.fr {W : World} {b : Nat} {s : St} {vc vw : Value} (h : NB W b s vc vw) (i : Nat) : W.frozen? ⟨b, i, none⟩ = false := by simp [World.frozen?, show W.heap[b]? = _ from h]
theorem infoR : (Try.prog.info? 40).map (fun i => (i.zero, i.size, i.bytes)) = some (some (.agg #[.int .i64 0, .int .i64 0]), 2, 16) := by kernel_rfl
theorem infoW : (Try.prog.info? 45).map (fun i => (i.zero, i.size, i.bytes)) = some (some (.agg #[.int .i64 0, .int .i64 0]), 2, 16) := by kernel_rfl

end Go.Proofs.Ytigjbgecdaljkah

/- The best of all plans, want by want, at each place of each list: mathematics. No program is named here. -/
namespace Go.Proofs.Ytigjbgecdaljkah

/-- a want put into a list -/
def insw (l : List Int) (i : Nat) (w : Int) : List Int := l.take i ++ w :: l.drop i
/-- a plan with one want more, at each place of each list of a car that may serve it -/
def ino (s : Sn) (p : List (List Int)) (w : Int) : List (List (List Int)) :=
  (List.range s.cs.length).flatMap fun c => if mayk s c w = true then (List.range ((p[c]?.getD []).length + 1)).map fun i => p.set c (insw (p[c]?.getD []) i w) else []
/-- the least cost of the plans that hold these lists -/
def bst (s : Sn) : Nat → Nat → List (List Int) → Int
  | 0, _, p => RM.cst s.st s.ws s.cs p
  | r + 1, w, p => RM.lm ((ino s p (w : Int)).map (bst s r (w + 1)))
/-- the first wants alone -/
def rst (w : Int) (q : List (List Int)) : List (List Int) := q.map fun l => l.filter fun x => decide (x < w)
section
variable {s : Sn} {p q : List (List Int)}
theorem ino_mem {w : Int} {o : List (List Int)} : o ∈ ino s p w ↔ ∃ c i, c < s.cs.length ∧ mayk s c w = true ∧ i ≤ (p[c]?.getD []).length ∧ o = p.set c (insw (p[c]?.getD []) i w) := by
  unfold ino
  rw [List.mem_flatMap]
  constructor
  · rintro ⟨c, hc, ho⟩
    split at ho
    · rename_i hm
      obtain ⟨i, hi, rfl⟩ := List.mem_map.1 ho
      rw [List.mem_range] at hc hi
      exact ⟨c, i, hc, hm, by omega, rfl⟩
    · simp at ho
  · rintro ⟨c, i, hc, hm, hi, rfl⟩
    refine ⟨c, List.mem_range.2 hc, ?_⟩
    rw [if_pos hm]
    exact List.mem_map.2 ⟨i, List.mem_range.2 (by omega), rfl⟩
theorem insw_count (l : List Int) (i : Nat) (w x : Int) : (insw l i w).count x = l.count x + if w = x then 1 else 0 := by
  unfold insw
  rw [List.count_append, List.count_cons]
  have e : l.count x = (l.take i).count x + (l.drop i).count x := by rw [← List.count_append, List.take_append_drop]
  rw [e]
  by_cases h : w = x
  · simp [h]; omega
  · simp [h]
theorem insw_mem {l : List Int} {i : Nat} {w x : Int} (h : x ∈ insw l i w) : x = w ∨ x ∈ l := by
  unfold insw at h
  rcases List.mem_append.1 h with h | h
  · exact .inr (List.mem_of_mem_take h)
  · rcases List.mem_cons.1 h with h | h
    · exact .inl h
    · exact .inr (List.mem_of_mem_drop h)
theorem Pw.lt {w : Nat} (h : Pw s w p) {c : Nat} {l : List Int} (hl : p[c]? = some l) {x : Int} (hx : x ∈ l) : 0 ≤ x ∧ x < (w : Int) := by
  have hok := PM.okx_iff.1 (h.ok c l hl x hx)
  obtain ⟨v, rfl⟩ : ∃ v : Nat, x = (v : Int) := ⟨x.toNat, by omega⟩
  refine ⟨by omega, ?_⟩
  have hm : (v : Int) ∈ p.flatten := List.mem_flatten.2 ⟨l, List.mem_of_getElem? hl, hx⟩
  have := List.count_pos_iff.2 hm
  rw [h.cnt v] at this
  split at this
  · omega
  · omega
theorem Pw.ins {w c i : Nat} (h : Pw s w p) (hc : c < s.cs.length) (hw : w < s.ws.length) (hm : mayk s c (w : Int) = true) : Pw s (w + 1) (p.set c (insw (p[c]?.getD []) i (w : Int))) ∧ rst (w : Int) (p.set c (insw (p[c]?.getD []) i (w : Int))) = p := by
  have hcp : c < p.length := by rw [h.len]; exact hc
  have hml := msk_len s
  obtain ⟨l, hl⟩ : ∃ l, p[c]? = some l := ⟨_, List.getElem?_eq_getElem hcp⟩
  rw [hl, Option.getD_some]
  refine ⟨⟨by rw [List.length_set]; exact h.len, fun d m hd x hx => ?_, fun v => ?_⟩, ?_⟩
  · by_cases e : c = d
    · subst e
      rw [List.getElem?_set_self hcp] at hd
      cases hd
      rcases insw_mem hx with hx | hx
      · rw [hx]; exact PM.okx_iff.2 ⟨by omega, by omega, hm⟩
      · exact h.ok c l hl x hx
    · rw [List.getElem?_set_ne e] at hd
      exact h.ok d m hd x hx
  · have h1 := PM.count_flat_set (x := (v : Int)) (l' := insw l i (w : Int)) hl
    rw [insw_count] at h1
    have h2 := h.cnt v
    have h3 : ((w : Int) = (v : Int)) ↔ w = v := by omega
    by_cases e : w = v
    · rw [if_pos (h3.2 e)] at h1
      rw [if_neg (by omega)] at h2
      rw [if_pos (by omega)]
      omega
    · rw [if_neg (fun g => e (h3.1 g))] at h1
      by_cases h4 : v < w
      · rw [if_pos h4] at h2
        rw [if_pos (by omega)]
        omega
      · rw [if_neg h4] at h2
        rw [if_neg (by omega)]
        omega
  · refine List.ext_getElem? fun d => ?_
    unfold rst
    rw [List.getElem?_map]
    have keep : ∀ m : List Int, (∀ x ∈ m, x < (w : Int)) → m.filter (fun x => decide (x < (w : Int))) = m := fun m hm => List.filter_eq_self.2 fun x hx => decide_eq_true (hm x hx)
    by_cases e : c = d
    · subst e
      rw [List.getElem?_set_self hcp, hl, Option.map_some]
      congr 1
      unfold insw
      rw [List.filter_append, List.filter_cons, if_neg (by simp), ← List.filter_append, List.take_append_drop]
      exact keep l fun x hx => (h.lt hl hx).2
    · rw [List.getElem?_set_ne e]
      cases hd : p[d]? with
      | none => rfl
      | some m =>
        rw [Option.map_some, keep m fun x hx => (h.lt hd hx).2]
theorem rst_rst {w : Int} (q : List (List Int)) : rst w (rst (w + 1) q) = rst w q := by
  unfold rst
  rw [List.map_map]
  refine List.map_congr_left fun l _ => ?_
  show (l.filter _).filter _ = _
  rw [List.filter_filter]
  refine List.filter_congr fun x _ => ?_
  by_cases h : x < w
  · rw [decide_eq_true h, decide_eq_true (show x < w + 1 by omega)]; rfl
  · rw [decide_eq_false h]; rfl
/-- a plan's next want stands somewhere -/
theorem rst_step (hq : Fs s q) {w : Nat} (hw : w < s.ws.length) : rst ((w : Int) + 1) q ∈ ino s (rst (w : Int) q) (w : Int) := by
  have hml := msk_len s
  have hone := hq.fz.once w (by omega)
  have hmem : (w : Int) ∈ q.flatten := List.count_pos_iff.1 (by rw [hone]; omega)
  obtain ⟨l, hlq, hwl⟩ := List.mem_flatten.1 hmem
  obtain ⟨c, hc⟩ := List.getElem?_of_mem hlq
  have hcq := (List.getElem?_eq_some_iff.1 hc).1
  obtain ⟨A, C, hAC⟩ := List.append_of_mem hwl
  have hcnt : ∀ (d : Nat) m, q[d]? = some m → (m.count (w : Int) ≤ 1 ∧ (d ≠ c → (w : Int) ∉ m)) := fun d m hd => by
    have h1 := PM.count_flat_set (x := (w : Int)) (l' := []) hd
    simp at h1
    refine ⟨by omega, fun hdc hwm => ?_⟩
    have h2 := List.count_pos_iff.2 hwm
    have h3 : (w : Int) ∈ (q.set d []).flatten := List.mem_flatten.2 ⟨l, List.mem_of_getElem? (i := c) (by rw [List.getElem?_set_ne hdc]; exact hc), hwl⟩
    have h4 := List.count_pos_iff.2 h3
    omega
  have hcl := (hcnt c l hc).1
  rw [hAC, List.count_append, List.count_cons_self] at hcl
  have hwA : (w : Int) ∉ A := fun h => by have := List.count_pos_iff.2 h; omega
  have hwC : (w : Int) ∉ C := fun h => by have := List.count_pos_iff.2 h; omega
  have same : ∀ m : List Int, (w : Int) ∉ m → m.filter (fun x => decide (x < (w : Int) + 1)) = m.filter fun x => decide (x < (w : Int)) := fun m hm => List.filter_congr fun x hx => by
    have hne : x ≠ (w : Int) := fun e => hm (e ▸ hx)
    by_cases h : x < (w : Int)
    · rw [decide_eq_true h, decide_eq_true (by omega)]
    · rw [decide_eq_false h, decide_eq_false (by omega)]
  have hpc : (rst (w : Int) q)[c]? = some (A.filter (fun x => decide (x < (w : Int))) ++ C.filter fun x => decide (x < (w : Int))) := by
    unfold rst
    rw [List.getElem?_map, hc, Option.map_some, hAC, List.filter_append, List.filter_cons, if_neg (by simp)]
  refine ino_mem.2 ⟨c, (A.filter fun x => decide (x < (w : Int))).length, by have := hq.pc; omega, (PM.okx_iff.1 (hq.fz.ok c l hc (w : Int) hwl)).2.2, by rw [hpc, Option.getD_some, List.length_append]; omega, ?_⟩
  rw [hpc, Option.getD_some]
  refine List.ext_getElem? fun d => ?_
  by_cases e : c = d
  · subst e
    rw [List.getElem?_set_self (by unfold rst; rw [List.length_map]; exact hcq)]
    unfold rst insw
    rw [List.getElem?_map, hc, Option.map_some, hAC, List.filter_append, List.filter_cons, if_pos (decide_eq_true (by omega)), same A hwA, same C hwC, List.take_left, List.drop_left]
  · rw [List.getElem?_set_ne e]
    unfold rst
    rw [List.getElem?_map, List.getElem?_map]
    cases hd : q[d]? with
    | none => rfl
    | some m => rw [Option.map_some, Option.map_some, same m ((hcnt d m hd).2 fun h => e h.symm)]
theorem rst_all (hq : Fs s q) : rst (s.ws.length : Int) q = q := by
  unfold rst
  conv => rhs; rw [← List.map_id q]
  refine List.map_congr_left fun l hl => List.filter_eq_self.2 fun x hx => decide_eq_true ?_
  have := hq.fr x (List.mem_flatten.2 ⟨l, hl, hx⟩)
  exact this.2
theorem rst_none (hq : Fs s q) : rst ((0 : Nat) : Int) q = List.replicate s.cs.length [] := by
  unfold rst
  rw [hq.pc]
  refine List.eq_replicate_iff.2 ⟨by rw [List.length_map], fun l hl => ?_⟩
  obtain ⟨m, hm, rfl⟩ := List.mem_map.1 hl
  rw [List.filter_eq_nil_iff]
  intro x hx
  have := hq.fr x (List.mem_flatten.2 ⟨m, hm, hx⟩)
  simp
  omega
theorem bst_all (hr : rgt s = true) : ∀ (r w : Nat) (p : List (List Int)), w + r = s.ws.length → Pw s w p →
    (∃ q, fsb s q = true ∧ rst (w : Int) q = p ∧ RM.cst s.st s.ws s.cs q = bst s r w p) ∧ ∀ q, fsb s q = true → rst (w : Int) q = p → bst s r w p ≤ RM.cst s.st s.ws s.cs q
  | 0, w, p, hw, hp => by
    obtain rfl : w = s.ws.length := by omega
    have hf := hp.fsb hr
    refine ⟨⟨p, hf, rst_all (fsb_fs hf), rfl⟩, fun q hq e => ?_⟩
    rw [rst_all (fsb_fs hq)] at e
    rw [e]; exact Int.le_refl _
  | r + 1, w, p, hw, hp => by
    have ih := fun o => bst_all hr r (w + 1) o (by omega)
    have hopt : ∀ o ∈ ino s p (w : Int), Pw s (w + 1) o ∧ rst (w : Int) o = p := fun o ho => by
      obtain ⟨c, i, hc, hm, _, rfl⟩ := ino_mem.1 ho
      exact hp.ins hc (by omega) hm
    have hne : (ino s p (w : Int)).map (bst s r (w + 1)) ≠ [] := by
      obtain ⟨c, hc, hm⟩ := has_car hr (w := w) (by omega)
      have : p.set c (insw (p[c]?.getD []) 0 (w : Int)) ∈ ino s p (w : Int) := ino_mem.2 ⟨c, 0, hc, hm, Nat.zero_le _, rfl⟩
      intro e
      rw [List.map_eq_nil_iff] at e
      rw [e] at this
      simp at this
    have hlow := RM.low_mem hne
    rw [← RM.lm_low hne] at hlow
    have hbs : bst s (r + 1) w p = RM.lm ((ino s p (w : Int)).map (bst s r (w + 1))) := rfl
    rw [hbs]
    have hcast : (((w + 1 : Nat)) : Int) = (w : Int) + 1 := by omega
    refine ⟨?_, fun q hq e => ?_⟩
    · obtain ⟨o, ho, e⟩ := List.mem_map.1 hlow.1
      obtain ⟨q, h1, h2, h3⟩ := (ih o (hopt o ho).1).1
      refine ⟨q, h1, ?_, by rw [h3, e]⟩
      rw [← rst_rst, ← hcast, h2, (hopt o ho).2]
    · have hst := rst_step (fsb_fs hq) (w := w) (by omega)
      rw [e] at hst
      have h1 := (ih _ (hopt _ hst).1).2 q hq (by rw [hcast])
      have h2 := hlow.2 _ (List.mem_map.2 ⟨_, hst, rfl⟩)
      omega
/-- the least cost of all plans, so reckoned -/
theorem bst_best (hr : rgt s = true) : Best s (bst s s.ws.length 0 (List.replicate s.cs.length [])) := by
  obtain ⟨⟨q, h1, _, h3⟩, h4⟩ := bst_all hr s.ws.length 0 _ (by omega) (Pw.zero s)
  exact ⟨⟨q, h1, h3⟩, fun q hq => h4 q hq (rst_none (fsb_fs hq))⟩
end

end Go.Proofs.Ytigjbgecdaljkah

/- Wants in another order, and a car more: mathematics. No program is named here. -/
namespace Go.Proofs.Ytigjbgecdaljkah

/-- wants under other numbers -/
def ren (f : Nat → Nat) (p : List (List Int)) : List (List Int) := p.map fun l => l.map fun x => ((f x.toNat : Nat) : Int)
/-- the same wants under other numbers -/
structure Rn (ws ws' : List (Int × Int)) (f g : Nat → Nat) : Prop where
  len : ws'.length = ws.length
  fl : ∀ i, i < ws.length → f i < ws.length
  gl : ∀ i, i < ws.length → g i < ws.length
  gf : ∀ i, i < ws.length → g (f i) = i
  fg : ∀ i, i < ws.length → f (g i) = i
  pl : ∀ i, i < ws.length → ws'[f i]? = ws[i]?
section
variable {s : Sn} {ws' : List (Int × Int)} {f g : Nat → Nat} {p : List (List Int)}
theorem Rn.back (h : Rn s.ws ws' f g) : Rn ws' s.ws g f := ⟨h.len.symm, fun i hi => by rw [h.len] at hi ⊢; exact h.gl i hi, fun i hi => by rw [h.len] at hi ⊢; exact h.fl i hi, fun i hi => by rw [h.len] at hi; exact h.fg i hi, fun i hi => by rw [h.len] at hi; exact h.gf i hi, fun i hi => by
  rw [h.len] at hi
  rw [← h.pl _ (h.gl i hi), h.fg i hi]⟩
theorem ren_count {m j : Nat} (hf : ∀ i, i < m → f i < m) (hgf : ∀ i, i < m → g (f i) = i) (hfg : ∀ i, i < m → f (g i) = i) (hj : j < m) : ∀ (l : List Int), (∀ x ∈ l, 0 ≤ x ∧ x < (m : Int)) → (l.map fun x => ((f x.toNat : Nat) : Int)).count (j : Int) = l.count ((g j : Nat) : Int)
  | [], _ => rfl
  | x :: l, h => by
    have hx := h x (by simp)
    obtain ⟨v, rfl⟩ : ∃ v : Nat, x = (v : Int) := ⟨x.toNat, by omega⟩
    rw [List.map_cons, List.count_cons, List.count_cons, ren_count hf hgf hfg hj l fun y hy => h y (by simp [hy]), Int.toNat_natCast]
    congr 1
    have e : (((f v : Nat) : Int) == (j : Int)) = ((v : Int) == ((g j : Nat) : Int)) := by
      rw [Bool.eq_iff_iff, beq_iff_eq, beq_iff_eq]
      constructor
      · intro h1
        have h2 : f v = j := by omega
        rw [← h2, hgf v (by omega)]
      · intro h1
        have h2 : v = g j := by omega
        rw [h2, hfg j hj]
    rw [e]
theorem ren_flat : (ren f p).flatten = p.flatten.map fun x => ((f x.toNat : Nat) : Int) := by unfold ren; rw [List.map_flatten]
theorem ren_wf (h : Rn s.ws ws' f g) {x : Int} (h0 : 0 ≤ x) (h1 : x < s.ws.length) : RM.wf ws' ((f x.toNat : Nat) : Int) = RM.wf s.ws x := by
  unfold RM.wf
  rw [Int.toNat_natCast, h.pl _ (by omega)]
theorem ren_cst (st : St) (h : Rn s.ws ws' f g) : ∀ (cs : List (Int × Int)) (p : List (List Int)), (∀ x ∈ p.flatten, 0 ≤ x ∧ x < s.ws.length) → RM.cst st ws' cs (ren f p) = RM.cst st s.ws cs p
  | [], p, _ => by unfold RM.cst; simp [RM.prs]
  | _ :: _, [], _ => rfl
  | r :: cs, l :: p, hp => by
    have hl : (l.map fun x => ((f x.toNat : Nat) : Int)).map (RM.wf ws') = l.map (RM.wf s.ws) := by
      rw [List.map_map]
      exact List.map_congr_left fun x hx => ren_wf h (hp x (by simp [hx])).1 (hp x (by simp [hx])).2
    show RM.cst st ws' (r :: cs) ((l.map fun x => ((f x.toNat : Nat) : Int)) :: ren f p) = _
    rw [RM.cst_cons, RM.cst_cons, hl, ren_cst st h cs p fun x hx => hp x (by
      rw [List.flatten_cons]
      exact List.mem_append_right _ hx)]
theorem ren_rgt (h : Rn s.ws ws' f g) (hr : rgt s = true) : rgt ⟨s.st, s.cs, ws'⟩ = true := by
  unfold rgt at hr ⊢
  simp only [Bool.and_eq_true, decide_eq_true_eq] at hr ⊢
  refine ⟨⟨⟨hr.1.1.1, by rw [h.len]; exact hr.1.1.2⟩, hr.1.2⟩, ?_⟩
  rw [List.all_eq_true]
  intro y hy
  obtain ⟨j, hj⟩ := List.getElem?_of_mem hy
  have hjl : j < s.ws.length := by have := (List.getElem?_eq_some_iff.1 hj).1; have := h.len; omega
  have := h.pl _ (h.gl j hjl)
  rw [h.fg j hjl] at this
  exact List.all_eq_true.1 hr.2 y (List.mem_of_getElem? (this.symm.trans hj))
theorem ren_fsb (h : Rn s.ws ws' f g) (hp : fsb s p = true) : fsb ⟨s.st, s.cs, ws'⟩ (ren f p) = true := by
  have hf := fsb_fs hp
  have hml := msk_len s
  have hml' := msk_len ⟨s.st, s.cs, ws'⟩
  have hlen := h.len
  have hmk : ∀ i, i < s.ws.length → (msk ⟨s.st, s.cs, ws'⟩)[f i]? = (msk s)[i]? := fun i hi => by
    unfold msk
    rw [List.getElem?_map, List.getElem?_map, h.pl i hi]
  refine Pw.fsb (ren_rgt h hf.rg) ⟨?_, fun c l hl x hx => ?_, fun v => ?_⟩
  · unfold ren
    rw [List.length_map]
    exact hf.pc.symm
  · unfold ren at hl
    rw [List.getElem?_map] at hl
    obtain ⟨m, hm, rfl⟩ := Option.map_eq_some_iff.1 hl
    obtain ⟨y, hy, rfl⟩ := List.mem_map.1 hx
    have hok := PM.okx_iff.1 (hf.fz.ok c m hm y hy)
    have hyl : y.toNat < s.ws.length := by omega
    have hfl := h.fl _ hyl
    refine PM.okx_iff.2 ⟨by omega, ?_, ?_⟩
    · rw [hml']
      show ((f y.toNat : Nat) : Int) < (ws'.length : Int)
      omega
    · rw [Int.toNat_natCast, hmk _ hyl]; exact hok.2.2
  · rw [ren_flat]
    by_cases hv : v < s.ws.length
    · rw [if_pos (show v < ws'.length by omega), ren_count h.fl h.gf h.fg hv _ hf.fr]
      exact hf.fz.once _ (by have := h.gl v hv; omega)
    · rw [if_neg (show ¬ v < ws'.length by omega)]
      refine List.count_eq_zero.2 fun hm => ?_
      obtain ⟨y, hy, e⟩ := List.mem_map.1 hm
      have hyr := hf.fr y hy
      have := h.fl y.toNat (by omega)
      omega
/-- wants in another order have the same best cost -/
theorem Best.ren {n : Int} (h : Rn s.ws ws' f g) (hb : Best s n) : Best ⟨s.st, s.cs, ws'⟩ n := by
  refine ⟨?_, fun q hq => ?_⟩
  · obtain ⟨p, hp, e⟩ := hb.some
    exact ⟨_, ren_fsb h hp, (ren_cst s.st h s.cs p (fsb_fs hp).fr).trans e⟩
  · have hb2 : Rn (⟨s.st, s.cs, ws'⟩ : Sn).ws s.ws g f := h.back
    have h1 := ren_fsb hb2 hq
    have h2 := ren_cst s.st hb2 s.cs q (fsb_fs hq).fr
    have h3 := hb.least _ h1
    rw [h2] at h3
    exact h3
/-- wants that are turned round -/
theorem rn_turn {k : Nat} (hk : k < s.ws.length) : Rn s.ws (s.ws.drop k ++ s.ws.take k) (fun i => if i < k then i + (s.ws.length - k) else i - k) (fun j => if j < s.ws.length - k then j + k else j - (s.ws.length - k)) := by
  refine ⟨by rw [List.length_append, List.length_drop, List.length_take]; omega, fun i hi => ?_, fun i hi => ?_, fun i hi => ?_, fun i hi => ?_, fun i hi => ?_⟩
  · show (if i < k then _ else _) < _
    split <;> omega
  · show (if i < s.ws.length - k then _ else _) < _
    split <;> omega
  · show (if (if i < k then _ else _) < s.ws.length - k then _ else _) = i
    by_cases h : i < k
    · rw [if_pos h, if_neg (by omega)]; omega
    · rw [if_neg h, if_pos (by omega)]; omega
  · show (if (if i < s.ws.length - k then _ else _) < k then _ else _) = i
    by_cases h : i < s.ws.length - k
    · rw [if_pos h, if_neg (by omega)]; omega
    · rw [if_neg h, if_pos (by omega)]; omega
  · show (s.ws.drop k ++ s.ws.take k)[if i < k then _ else _]? = _
    by_cases h : i < k
    · rw [if_pos h, List.getElem?_append_right (by rw [List.length_drop]; omega), List.length_drop, show i + (s.ws.length - k) - (s.ws.length - k) = i by omega, List.getElem?_take_of_lt h]
    · rw [if_neg h, List.getElem?_append_left (by rw [List.length_drop]; omega), List.getElem?_drop, show k + (i - k) = i by omega]

/-- a car more, that may serve none -/
def mcar (s : Sn) : Sn := ⟨{ s.st with ca := s.st.ca + 1 }, s.cs ++ [(0, 0)], s.ws⟩
theorem nx_ca (st : St) (n : Int) (a : RM.Sp) (x : Int) : RM.nx { st with ca := n } a x = RM.nx st a x := rfl
theorem ar_ca (st : St) (n : Int) (a : RM.Sp) (x : Int) : RM.ar { st with ca := n } a x = RM.ar st a x := rfl
theorem tm_ca (st : St) (n : Int) : ∀ (l : List Int) (a : RM.Sp), RM.tm { st with ca := n } a l = RM.tm st a l
  | [], _ => rfl
  | x :: l, a => by
    show RM.ar { st with ca := n } a x :: RM.tm { st with ca := n } (RM.nx { st with ca := n } a x) l = RM.ar st a x :: RM.tm st (RM.nx st a x) l
    rw [tm_ca st n l, nx_ca, ar_ca]
theorem cst_ca (st : St) (n : Int) (ws : List (Int × Int)) : ∀ (cs : List (Int × Int)) (p : List (List Int)), RM.cst { st with ca := n } ws cs p = RM.cst st ws cs p
  | [], _ => by unfold RM.cst; simp [RM.prs]
  | _ :: _, [] => rfl
  | r :: cs, l :: p => by rw [RM.cst_cons, RM.cst_cons, tm_ca, cst_ca st n ws cs p]
theorem cst_more (st : St) (ws : List (Int × Int)) (r : Int × Int) : ∀ (cs : List (Int × Int)) (p : List (List Int)), cs.length = p.length → RM.cst st ws (cs ++ [r]) (p ++ [[]]) = RM.cst st ws cs p
  | [], [], _ => rfl
  | [], _ :: _, h => by simp at h
  | _ :: _, [], h => by simp at h
  | r' :: cs, l :: p, h => by
    rw [List.cons_append, List.cons_append, RM.cst_cons, RM.cst_cons, cst_more st ws r cs p (by simpa using h)]
theorem more_rgt (hr : rgt s = true) (h8 : s.st.ca ≠ 8) : rgt (mcar s) = true := by
  have h0 := hr
  unfold rgt at hr
  simp only [Bool.and_eq_true, decide_eq_true_eq] at hr
  obtain ⟨⟨⟨⟨h1, h2⟩, h3⟩, h4⟩, h5⟩ := hr
  have rt := (rightB_iff _).1 h1
  have hca := rt.ca2
  have hc1 := rt.ca1
  have hfl := rt.fl1
  unfold rgt
  simp only [Bool.and_eq_true, decide_eq_true_eq]
  refine ⟨⟨⟨⟨(rightB_iff _).2 { rt with ca1 := ?_, ca2 := ?_ }, ?_⟩, h3⟩, ?_⟩, ?_⟩
  · show 1 ≤ s.st.ca + 1; omega
  · show s.st.ca + 1 ≤ 8; omega
  · show ((s.cs ++ [(0, 0)]).length : Int) = s.st.ca + 1
    rw [List.length_append]
    simp only [List.length_cons, List.length_nil]
    omega
  · show (s.cs ++ [(0, 0)]).all (cok s.st.fl) = true
    rw [List.all_append, h4]
    unfold cok
    simp
    omega
  · rw [List.all_eq_true] at h5 ⊢
    intro y hy
    have := wok_iff'.1 (h5 y hy)
    refine wok_iff'.2 ⟨this.1, this.2.1, this.2.2.1, ?_⟩
    show y.2 < 2 ^ (s.st.ca + 1).toNat
    have e : (s.st.ca + 1).toNat = s.st.ca.toNat + 1 := by omega
    rw [e, Int.pow_succ]
    omega
theorem more_fsb (hr : rgt s = true) (h8 : s.st.ca ≠ 8) (hp : fsb s p = true) : fsb (mcar s) (p ++ [[]]) = true := by
  have hf := fsb_fs hp
  have hml := msk_len s
  refine Pw.fsb (more_rgt hr h8) ⟨?_, fun c l hl x hx => ?_, fun v => ?_⟩
  · show (p ++ [[]]).length = (s.cs ++ [(0, 0)]).length
    rw [List.length_append, List.length_append, hf.pc]; rfl
  · by_cases hc : c < p.length
    · rw [List.getElem?_append_left hc] at hl
      exact hf.fz.ok c l hl x hx
    · rw [List.getElem?_append_right (by omega)] at hl
      have : l = [] := by
        cases e : c - p.length with
        | zero => rw [e] at hl; cases hl; rfl
        | succ n => rw [e] at hl; simp at hl
      rw [this] at hx
      simp at hx
  · have e : (p ++ [([] : List Int)]).flatten = p.flatten := by simp
    rw [e]
    show _ = if v < s.ws.length then 1 else 0
    by_cases hv : v < s.ws.length
    · rw [if_pos hv]; exact hf.fz.once v (by omega)
    · rw [if_neg hv]
      refine List.count_eq_zero.2 fun hm => ?_
      have := hf.fr _ hm
      omega
theorem more_only (hr : rgt s = true) {q : List (List Int)} (hq : fsb (mcar s) q = true) : ∃ p, q = p ++ [[]] ∧ fsb s p = true := by
  have hf := fsb_fs hq
  have hml := msk_len s
  obtain ⟨n, hrs⟩ := rgt_rs hr
  have hlen : q.length = s.cs.length + 1 := by
    have : (s.cs ++ [(0, 0)]).length = q.length := hf.pc
    rw [List.length_append] at this
    simp at this
    omega
  obtain ⟨l, hl⟩ : ∃ l, q[s.cs.length]? = some l := ⟨_, List.getElem?_eq_getElem (by omega)⟩
  have hnil : l = [] := by
    cases l with
    | nil => rfl
    | cons x l =>
      exfalso
      have hok := PM.okx_iff.1 (hf.fz.ok _ _ hl x (by simp))
      have hml' : (msk (mcar s)).length = s.ws.length := msk_len (mcar s)
      obtain ⟨m, hm⟩ : ∃ m, (msk s)[x.toNat]? = some m := ⟨_, List.getElem?_eq_getElem (by omega)⟩
      have h3 := hok.2.2
      rw [show (msk (mcar s))[x.toNat]? = some m from hm, Option.getD_some] at h3
      have hlt := hrs.lt m (List.mem_of_getElem? hm)
      rw [hrs.cl, PM.bt_high (Nat.div_eq_of_lt hlt) (Nat.le_refl _)] at h3
      cases h3
  have hsplit : q = q.take s.cs.length ++ [[]] := by
    have h1 := (List.take_append_drop s.cs.length q).symm
    have h2 : q.drop s.cs.length = [[]] := by
      rw [List.drop_eq_getElem_cons (by omega), List.drop_of_length_le (by omega)]
      have := (List.getElem?_eq_some_iff.1 hl).2
      rw [this, hnil]
    rw [h2] at h1
    exact h1
  refine ⟨q.take s.cs.length, hsplit, ?_⟩
  refine Pw.fsb hr ⟨by rw [List.length_take]; omega, fun c m hm x hx => ?_, fun v => ?_⟩
  · have hm2 : q[c]? = some m := by
      rw [List.getElem?_take] at hm
      split at hm
      · exact hm
      · cases hm
    exact hf.fz.ok c m hm2 x hx
  · have e : q.flatten = (q.take s.cs.length).flatten := by
      conv => lhs; rw [hsplit]
      simp
    rw [← e]
    by_cases hv : v < s.ws.length
    · rw [if_pos hv]; exact hf.fz.once v (by show v < (msk s).length; omega)
    · rw [if_neg hv]
      refine List.count_eq_zero.2 fun hm => ?_
      have : (v : Int) < (s.ws.length : Int) := (hf.fr _ hm).2
      omega
/-- a car more that may serve none changes no best cost -/
theorem Best.more {n : Int} (hr : rgt s = true) (h8 : s.st.ca ≠ 8) (hb : Best s n) : Best (mcar s) n := by
  refine ⟨?_, fun q hq => ?_⟩
  · obtain ⟨p, hp, e⟩ := hb.some
    refine ⟨_, more_fsb hr h8 hp, ?_⟩
    show RM.cst { s.st with ca := s.st.ca + 1 } s.ws (s.cs ++ [(0, 0)]) (p ++ [[]]) = n
    rw [cst_ca, cst_more _ _ _ _ _ (fsb_fs hp).pc, e]
  · obtain ⟨p, rfl, hp⟩ := more_only hr hq
    show n ≤ RM.cst { s.st with ca := s.st.ca + 1 } s.ws (s.cs ++ [(0, 0)]) (p ++ [[]])
    rw [cst_ca, cst_more _ _ _ _ _ (fsb_fs hp).pc]
    exact hb.least p hp
end

end Go.Proofs.Ytigjbgecdaljkah
