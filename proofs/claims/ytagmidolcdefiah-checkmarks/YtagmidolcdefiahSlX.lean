/- Nodes in memory: the laws inside a fence. -/
import Derived.Test.YtagmidolcdefiahPk16
import Derived.OwnWalkIn
import Derived.TacticsInMore
namespace Go.Proofs.Ytagmidolcdefiah
open Go.RowKit Go.Shelf
section
variable {F : Fence} {n : Nat} {ops : Array Oper} {rest : List Oper} {op : Oper} {a : Act} {w : World} {Q : Exit → Act → World → Prop}
theorem wpListIn_val (hg : op.guard = none) (hd : ∀ c, op.op ≠ .defer c) (hab : op.about Try.prog w a.eval = none) {v : Value} {w' : World} (hrun : (execOp a.eval op).run Try.prog w = .ok (.value v) w')
    (h : wpListIn F n Try.prog ops Q rest (a.put op.dst v) w') : wpListIn F n Try.prog ops Q (op :: rest) a w := by
  refine wpListIn_plain hg fun K hK => ?_
  unfold Oper.wpIn
  refine ⟨fun f hf => (by rw [hab] at hf; cases hf), ?_⟩
  rw [Oper.semAt_plain F _ _ hd, hrun]
  exact hK _ _ h
theorem wpListIn_skp (hg : op.guard = none) (hd : ∀ c, op.op ≠ .defer c) (hab : op.about Try.prog w a.eval = none) {w' : World} (hrun : (execOp a.eval op).run Try.prog w = .ok .skip w')
    (h : wpListIn F n Try.prog ops Q rest (a.put op.dst undef) w') : wpListIn F n Try.prog ops Q (op :: rest) a w := by
  refine wpListIn_plain hg fun K hK => ?_
  unfold Oper.wpIn
  refine ⟨fun f hf => (by rw [hab] at hf; cases hf), ?_⟩
  rw [Oper.semAt_plain F _ _ hd, hrun]
  exact hK _ _ h
theorem wpListIn_loadN (hgd : op.guard = none) (x : Operand) (ho : op.op = .load 97 x) (b o : Nat) (cs : List Value) (hl : cs.length = 136) (hx : a.eval x = .pointer (some ⟨b, o, none⟩)) (hr : w.rangeAt b o cs)
    (h : wpListIn F n Try.prog ops Q rest (a.put op.dst (.agg cs.toArray)) w) : wpListIn F n Try.prog ops Q (op :: rest) a w :=
  wpListIn_val hgd (by rw [ho]; intro c hc; cases hc) (by simp [Oper.about, ho]) (by unfold execOp; simp only [ho, hx, Sem.run_bind, Sem.run_pure, Result.andThen_ok, loadN w b o cs hl hr]) h
theorem wpListIn_allocN (hgd : op.guard = none) (ho : op.op = .alloc 97)
    (h : wpListIn F n Try.prog ops Q rest (a.put op.dst (.pointer (some ⟨w.heap.size, 0, none⟩))) (w.alloc (.cells zn.toArray 97))) : wpListIn F n Try.prog ops Q (op :: rest) a w :=
  wpListIn_val hgd (by rw [ho]; intro c hc; cases hc) (by simp [Oper.about, ho]) (by unfold execOp; simp only [ho, Sem.run_bind, Sem.run_pure, Result.andThen_ok, run_allocN]) h
theorem wpListIn_storeN1 (hgd : op.guard = none) (x y : Operand) (ho : op.op = .store 97 x y) (b : Nat) {old cs : List Value} (hx : a.eval x = .pointer (some ⟨b, 0, none⟩)) (hy : a.eval y = .agg cs.toArray) (hL : NK w b old) (hl : cs.length = 136) (h1 : ∀ u ∈ cs, u.oneCell' = true)
    (hn : wpListIn F n Try.prog ops Q rest (a.put op.dst undef) (w.setRow b cs.toArray)) : wpListIn F n Try.prog ops Q (op :: rest) a w :=
  wpListIn_skp hgd (by rw [ho]; intro c hc; cases hc) (by simp [Oper.about, ho])
    (by
      unfold execOp
      simp only [ho, hx, hy, Instr.storeAt, Instr.sureAddr, Sem.run_bind, Sem.run_pure, Result.andThen_ok, run_storeVar_row (P := Try.prog) w b 97 97 _ _ hL.2 (by rw [List.size_toArray, hl]; exact infoN) (by rw [List.size_toArray, List.size_toArray, hl, hL.1]) (all_oneCell_toArray h1)])
    hn
theorem wpListIn_appN (hgd : op.guard = none) (x y : Operand)
    (ho : op.op = .call { callee := .builtin .append, args := #[x, y], argTypes := #[99, 99] })
    (s : Sn) (B : Nat) (v : Value) (L : List En) (hs : a.eval x = v) (hown : ON s w B v L) (g c : Nat) (e : En) (hx : a.eval y = .slice (some ⟨g, 0, none⟩) 1 c) (hc : w.rangeAt g 0 (e.c s))
    (N : Nat) (hN : L.length = N) (h63 : L.length ≤ 200000000) (hB : B ≤ w.heap.size)
    (h : ∀ g' cap w', ON s w' B (.slice (some ⟨g', 0, none⟩) (N + 1) cap) (L ++ [e]) → w.grownBy w' v.ownBlock → (v.ownBlock = some g' ∨ g' = w.heap.size) → g' < w'.heap.size → wpListIn F n Try.prog ops Q rest (a.put op.dst (.slice (some ⟨g', 0, none⟩) (N + 1) cap)) w') : wpListIn F n Try.prog ops Q (op :: rest) a w := by
  subst hN
  obtain ⟨i0, hi, hz0, hz1, hz2⟩ := info_parts infoNz
  obtain ⟨g', cap, w', hr, h2, h3, h4, h5⟩ := run_append_lies (P := Try.prog) w 99 op.type B 97 i0 _ 136 192 Try.underlying99 hi hz0 hz1 hz2 (by simp [Value.cells, zn_length]) (by decide) v L.length (nrow s L) hown ⟨g, 0, none⟩ 1 c (e.c s) (by rw [En.len]) (fun j u hj => by rw [Addr.add_mid]; exact hc j u hj) (ncl_one _ _ _ _) (by omega) (by unfold maxLen; omega) (by omega) hB w.heap.size rfl
  refine wpListIn_val hgd (by rw [ho]; intro c hc; cases hc) (by simp [Oper.about, ho, resolve, Target.leads, Sem.run_pure]) (v := .slice (some ⟨g', 0, none⟩) (L.length + 1) cap) (w' := w') ?_ (h g' cap w' ?_ h3 h4 h5)
  · unfold execOp
    simp only [ho, resolve, invoke, builtin, Sem.run_bind, Sem.run_pure, Result.andThen_ok, List.map_toArray, List.map_cons, List.map_nil, hs, hx, hr]
  · unfold ON
    rw [List.length_append, nrow_append, nrow_one]
    exact h2
theorem wpListIn_build1N (hg : op.guard = none) (x : Operand) (ho : op.op = .buildSlice 99 1 #[(0, x)]) (cs : List Value) (hl : cs.length = 136) (hx : a.eval x = .agg cs.toArray)
    (h : wpListIn F n Try.prog ops Q rest (a.put op.dst (.slice (some ⟨w.heap.size, 0, none⟩) 1 1)) (w.alloc (.cells cs.toArray 97))) : wpListIn F n Try.prog ops Q (op :: rest) a w := by
  refine wpListIn_val hg (by rw [ho]; intro c hc; cases hc) (by simp [Oper.about, ho]) ?_ h
  obtain ⟨i0, hi, hz0, hz1, hz2⟩ := info_parts infoNz
  have hf := built1N cs hl
  unfold Program.builtSlice at hf
  rw [hi] at hf
  simp only [hz0, hz1] at hf
  rw [if_neg (by omega)] at hf
  unfold execOp
  simp [ho, hx, Instr.buildSlice, run_underlying Try.underlying99, sizeOf, typeInfo, zeroValue, hi, hz0, hz1, hf, newRow]
end
end Go.Proofs.Ytagmidolcdefiah
