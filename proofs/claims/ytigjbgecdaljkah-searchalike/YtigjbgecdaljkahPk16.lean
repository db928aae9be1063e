/- Several texts in one, each with its own head. -/
import Derived.Test.YtigjbgecdaljkahPk15
import Derived.Test.YtigjbgecdaljkahPk9
import Derived.Great.BuildSlice
import Derived.Great.Walk
import Derived.Great.FillDense
import Derived.Test.YtigjbgecdaljkahPk4
import Derived.RangeFuncNested
import Derived.RangeFuncCalls
import Derived.RangeFuncLeaves
/- Nodes in memory. -/
namespace Go.Proofs.Ytigjbgecdaljkah
open Go.RowKit Go.Shelf

/-- which wants stand, in 128 places -/
def pad (st : List Bool) : List Bool := (st ++ List.replicate 128 false).take 128
theorem pad_length (st : List Bool) : (pad st).length = 128 := by unfold pad; rw [List.length_take, List.length_append, List.length_replicate]; omega
theorem pad_get {st : List Bool} {w : Nat} {q : Bool} (hl : st.length ≤ 128) (h : st[w]? = some q) : (pad st)[w]? = some q := by
  have hw : w < st.length := (List.getElem?_eq_some_iff.1 h).1
  unfold pad
  rw [List.getElem?_take, if_pos (by omega), List.getElem?_append_left hw, h]
theorem pad_set {st : List Bool} {w : Nat} (hw : w < st.length) : (pad st).set w true = pad (st.set w true) := by
  unfold pad
  rw [← List.take_set, List.set_append_left _ _ hw]
theorem pad_rep (n : Nat) (hn : n ≤ 128) : pad (List.replicate n false) = List.replicate 128 false := by
  unfold pad
  rw [List.replicate_append_replicate, List.take_replicate, show min 128 (n + 128) = 128 by omega]
/-- a node's cells -/
def ncl (s : Sn) (pa : Option Addr) (wt : Int) (n : Nn) : List Value := [.pointer pa, .int .i64 (n.k : Int), .int .i64 wt, .int .i64 (sat s n).fl, .int .i64 (sat s n).he, .int .i64 (sat s n).le, .int .i64 (RM.cst s.st s.ws s.cs n.b), .int .i64 ((PM.lf n.st : Nat) : Int)] ++ (pad n.st).map Value.bool
theorem ncl_length (s : Sn) (pa : Option Addr) (wt : Int) (n : Nn) : (ncl s pa wt n).length = 136 := by unfold ncl; rw [List.length_append, List.length_map, pad_length]; rfl
theorem ncl_one (s : Sn) (pa : Option Addr) (wt : Int) (n : Nn) : ∀ u ∈ ncl s pa wt n, u.oneCell' = true := fun u hu => by
  unfold ncl at hu
  rcases List.mem_append.1 hu with hu | hu
  · simp only [List.mem_cons, List.not_mem_nil, or_false] at hu
    rcases hu with rfl | rfl | rfl | rfl | rfl | rfl | rfl | rfl <;> rfl
  · obtain ⟨b, _, rfl⟩ := List.mem_map.1 hu
    rfl
theorem ncl_st {s : Sn} {pa : Option Addr} {wt : Int} {n : Nn} {w : Nat} {q : Bool} (hl : n.st.length ≤ 128) (h : n.st[w]? = some q) : (ncl s pa wt n)[8 + w]? = some (.bool q) := by
  unfold ncl
  rw [List.getElem?_append_right (by simp)]
  simp only [List.length_cons, List.length_nil, Nat.reduceAdd, Nat.add_sub_cancel_left, List.getElem?_map, pad_get hl h, Option.map_some]
theorem infoN : (Try.prog.info? 67).map (·.size) = some 136 := by kernel_rfl
/-- the node that is nothing -/
def zn : List Value := [.pointer none, .int .i64 0, .int .i64 0, .int .i64 0, .int .i64 0, .int .i64 0, .int .i64 0, .int .i64 0] ++ List.replicate 128 (.bool false)
theorem zn_length : zn.length = 136 := by unfold zn; rw [List.length_append, List.length_replicate]; rfl
theorem infoNz : (Try.prog.info? 67).map (fun i => (i.zero, i.size, i.bytes)) = some (some (.agg zn.toArray), 136, 192) := by kernel_rfl

/-- a block that holds a node, or what is to be one -/
def NK (W : World) (q : Nat) (cs : List Value) : Prop := cs.length = 136 ∧ W.heap[q]? = some (.cells cs.toArray 67 (0, 0))
section
variable {W W' : World} {q : Nat} {cs : List Value}
theorem NK.lt (h : NK W q cs) : q < W.heap.size := (Array.getElem?_eq_some_iff.1 h.2).1
theorem NK.keep (h : NK W q cs) (hk : W'.heap[q]? = W.heap[q]?) : NK W' q cs := ⟨h.1, hk.trans h.2⟩
theorem NK.below' (h : NK W q cs) (hb : Below W.heap.size W W') : NK W' q cs := h.keep (hb.block q h.lt)
theorem NK.cell (h : NK W q cs) (i : Nat) : W.cell? ⟨q, i, none⟩ = cs[i]? := blk_cell h.2 i
theorem NK.fr (h : NK W q cs) (i : Nat) : W.frozen? ⟨q, i, none⟩ = false := blk_fr h.2 i
theorem NK.range (h : NK W q cs) : W.rangeAt q 0 cs := fun j v hv => by rw [Nat.zero_add, h.cell, hv]
theorem NK.put (h : NK W q cs) (i : Nat) (v : Value) : NK (W.setCell ⟨q, i, none⟩ v) q (cs.set i v) := ⟨by rw [List.length_set]; exact h.1, blk_set h.2 i v⟩
theorem NK.new (W : World) (hl : cs.length = 136) : NK (W.alloc (.cells cs.toArray 67)) W.heap.size cs := ⟨hl, World.alloc_heap_new W _⟩
theorem NK.kp {G : Nat → Prop} (h : NK W q cs) (k : Kp G W W') (hG : ¬ G q) : NK W' q cs := h.keep (k.block q h.lt hG)
end
theorem loadN (w : World) (b o : Nat) (cs : List Value) (hl : cs.length = 136) (h : w.rangeAt b o cs) :
    (Instr.loadAt 67 (.pointer (some ⟨b, o, none⟩))).run Try.prog w = .ok (.agg cs.toArray) w :=
  run_loadAt_mid (P := Try.prog) w b o 67 cs _ h Try.underlying67 rfl (by rw [hl]; exact infoN)
/-- a whole node is read -/
theorem wpList_loadN {ops : Array Oper} {rest : List Oper} {op : Oper} {a : Act} {w : World} {Q : Exit → Act → World → Prop} (hgd : Region.wanted op (yielded ops a.tmps) = true) (x : Operand) (ho : op.op = .load 67 x)
    (b o : Nat) (cs : List Value) (hl : cs.length = 136) (hx : a.eval x = .pointer (some ⟨b, o, none⟩)) (hr : w.rangeAt b o cs)
    (h : wpList Try.prog ops Q rest (a.put op.dst (.agg cs.toArray)) w) : wpList Try.prog ops Q (op :: rest) a w :=
  wpList_step fun _ hK => by
    rw [if_pos hgd]
    unfold Oper.wp execOp
    simp only [ho, Sem.run_bind, Sem.run_pure, Result.andThen_ok, hx, loadN w b o cs hl hr]
    exact hK _ _ h
theorem calm_loadN {W0 : World} {K : Act → Prop} {o : Oper} {a : Act} (x : Operand) (b f : Nat) (cs : List Value) (hl : cs.length = 136) (ho : o.op = .load 67 x) (hx : a.eval x = .pointer (some ⟨b, f, none⟩)) (hr : ∀ w, Below W0.heap.size W0 w → w.rangeAt b f cs)
    (h : K (a.put o.dst (.agg cs.toArray))) : Oper.calm Try.prog W0 o a K :=
  calm_val _ (fun w hw => by unfold execOp; simp only [ho, hx, Sem.run_bind, Sem.run_pure, Result.andThen_ok, loadN w b f cs hl (hr w hw)]) h
theorem quiet_loadN {C : World → Prop} {K : Act → Prop} {o : Oper} {a : Act} (x : Operand) (b f : Nat) (cs : List Value) (hl : cs.length = 136) (ho : o.op = .load 67 x) (hx : a.eval x = .pointer (some ⟨b, f, none⟩)) (hr : ∀ w, C w → w.rangeAt b f cs)
    (h : K (a.put o.dst (.agg cs.toArray))) : o.quiet Try.prog a C K :=
  quiet_val _ (fun w hw => by unfold execOp; simp only [ho, hx, Sem.run_bind, Sem.run_pure, Result.andThen_ok, loadN w b f cs hl (hr w hw)]) h
/-- a whole node is written -/
theorem wpList_storeN {ops : Array Oper} {rest : List Oper} {op : Oper} {a : Act} {w : World} {Q : Exit → Act → World → Prop} (hgd : op.guard = none) (x y : Operand) (ho : op.op = .store 67 x y)
    (b : Nat) {old cs : List Value} (hx : a.eval x = .pointer (some ⟨b, 0, none⟩)) (hy : a.eval y = .agg cs.toArray) (hL : NK w b old) (hl : cs.length = 136) (h1 : ∀ u ∈ cs, u.oneCell' = true)
    (hn : ∀ W', Kp (fun k => k = b) w W' → W'.heap.size = w.heap.size → NK W' b cs → wpList Try.prog ops Q rest (a.put op.dst undef) W') : wpList Try.prog ops Q (op :: rest) a w :=
  wpList_store_row hgd 67 x y ho b _ hx hy _ _ hL.2 (by rw [List.size_toArray, hl]; exact infoN) (by rw [List.size_toArray, List.size_toArray, hl, hL.1]) (all_oneCell_toArray h1) (hn _ (kp_row b w _) (by simp) ⟨hl, setRow_heap w b _ _ _ _ hL.2⟩)
/-- a new node -/
theorem run_allocN (w : World) : (Instr.alloc 67 true (.tuple #[])).run Try.prog w = .ok (.pointer (some ⟨w.heap.size, 0, none⟩)) (w.alloc (.cells zn.toArray 67)) := by
  obtain ⟨i0, hi, hz0, hz1, hz2⟩ := info_parts infoNz
  simp [Instr.alloc, zeroValue, typeInfo, hi, hz0, newVar, newRow, Value.cells]
theorem wpList_allocN {ops : Array Oper} {rest : List Oper} {op : Oper} {a : Act} {w : World} {Q : Exit → Act → World → Prop} (hgd : op.guard = none) (ho : op.op = .alloc 67)
    (hn : wpList Try.prog ops Q rest (a.put op.dst (.pointer (some ⟨w.heap.size, 0, none⟩))) (w.alloc (.cells zn.toArray 67))) : wpList Try.prog ops Q (op :: rest) a w :=
  wpList_plain hgd fun _ hK => by
    unfold Oper.wp execOp
    simp only [ho, Sem.run_bind, Sem.run_pure, Result.andThen_ok, run_allocN]
    exact hK _ _ hn
theorem retN {fn : Func} {t : Tmp} (hf : fn.results = #[.cell t 67]) {tmps : Array Value} {w : World} {b : Nat} {cs : List Value} (hp : tmps.getD t undef = .pointer (some ⟨b, 0, none⟩)) (hC : NK w b cs) :
    (results fn tmps).run Try.prog w = .ok (.agg cs.toArray) w :=
  results_cell_row hf tmps w b _ _ _ _ hp hC.2 Try.underlying67 rfl (by rw [List.size_toArray, hC.1]; exact infoN)

/-- a node that waits: its parent, its want -/
structure En where
  pa : Option Addr
  wt : Int
  nd : Nn
def En.c (s : Sn) (e : En) : List Value := ncl s e.pa e.wt e.nd
theorem En.len (s : Sn) (e : En) : (e.c s).length = 136 := ncl_length _ _ _ _
def nrow (s : Sn) : List En → List Value
  | [] => []
  | e :: L => e.c s ++ nrow s L
section
variable {s : Sn}
theorem nrow_length : ∀ (L : List En), (nrow s L).length = L.length * 136
  | [] => rfl
  | e :: L => by rw [nrow, List.length_append, En.len, nrow_length L, List.length_cons]; omega
theorem nrow_append : ∀ (L M : List En), nrow s (L ++ M) = nrow s L ++ nrow s M
  | [], M => rfl
  | e :: L, M => by rw [List.cons_append, nrow, nrow_append L M, nrow, List.append_assoc]
theorem nrow_one (e : En) : nrow s [e] = e.c s := by rw [nrow, nrow, List.append_nil]
theorem nrow_get : ∀ {L : List En} {j : Nat} {e : En}, L[j]? = some e → ∀ i, i < 136 → (nrow s L)[j * 136 + i]? = (e.c s)[i]?
  | [], _, _, h, _, _ => by simp at h
  | a :: L, 0, e, h, i, hi => by
    simp at h; subst h
    rw [nrow, Nat.zero_mul, Nat.zero_add, List.getElem?_append_left (by rw [En.len]; exact hi)]
  | a :: L, j + 1, e, h, i, hi => by
    rw [nrow, List.getElem?_append_right (by rw [En.len]; omega), En.len, show (j + 1) * 136 + i - 136 = j * 136 + i by omega]
    exact nrow_get (by simpa using h) i hi
theorem nrow_ok (L : List En) : ∀ u ∈ nrow s L, u.oneCell' = true := by
  induction L with
  | nil => intro u hu; simp [nrow] at hu
  | cons e L ih =>
    intro u hu
    rw [nrow, List.mem_append] at hu
    exact hu.elim (ncl_one _ _ _ _ u) (ih u)
theorem nrow_take (L : List En) (j : Nat) : nrow s (L.take j) = (nrow s L).take (j * 136) := by
  induction L generalizing j with
  | nil => simp [nrow]
  | cons e L ih =>
    cases j with
    | zero => simp [nrow]
    | succ j =>
      rw [List.take_succ_cons, nrow, nrow, ih, List.take_append, En.len, List.take_of_length_le (l := e.c s) (by rw [En.len]; omega), show (j + 1) * 136 - 136 = j * 136 by omega]
end
/-- a row of nodes that is owned -/
def ON (s : Sn) (W : World) (B : Nat) (v : Value) (L : List En) : Prop := W.ownsRow B 67 136 v L.length (nrow s L)
section
variable {s : Sn} {W W' : World} {B : Nat} {v : Value} {L : List En}
theorem ON.form (h : ON s W B v L) : (v = .slice none 0 0 ∧ L = []) ∨ ∃ g cap, v = .slice (some ⟨g, 0, none⟩) L.length cap ∧ B ≤ g ∧ g < W.heap.size ∧ L.length ≤ cap ∧ cap ≤ maxLen := by
  rcases h.2 with ⟨h1, h2⟩ | ⟨g, cap, cur, hv, hb, hg, hc, hm, _⟩
  · exact .inl ⟨h1, List.length_eq_zero_iff.1 h2⟩
  · exact .inr ⟨g, cap, hv, hb, (Array.getElem?_eq_some_iff.1 hg).1, hc, hm⟩
theorem ON.slice (h : ON s W B v L) : ∃ a c, v = .slice a L.length c := by
  rcases h.form with ⟨rfl, rfl⟩ | ⟨g, cap, rfl, _⟩
  · exact ⟨none, 0, rfl⟩
  · exact ⟨_, cap, rfl⟩
theorem ON.lt (h : ON s W B v L) : ∀ g, v.ownBlock = some g → B ≤ g ∧ g < W.heap.size := World.ownsRow.lt h
theorem ON.keep (h : ON s W B v L) (hk : ∀ g, v.ownBlock = some g → W'.heap[g]? = W.heap[g]?) : ON s W' B v L := by
  refine ⟨h.1, ?_⟩
  rcases h.2 with h2 | ⟨g, cap, cur, hv, hb, hg, r⟩
  · exact .inl h2
  · exact .inr ⟨g, cap, cur, hv, hb, (hk g (by rw [hv]; rfl)).trans hg, r⟩
theorem ON.below' (h : ON s W B v L) (hb : Below W.heap.size W W') : ON s W' B v L := h.keep fun g hg => hb.block g (h.lt g hg).2
theorem ON.range {g cap n : Nat} (h : ON s W B (.slice (some ⟨g, 0, none⟩) n cap) L) {j : Nat} {e : En} (hj : L[j]? = some e) : W.rangeAt g (j * 136) (e.c s) := fun i v hv => by
  have hi : i < 136 := by have := (List.getElem?_eq_some_iff.1 hv).1; rwa [En.len] at this
  have := World.ownsRow.cells h (g := g) rfl (j * 136 + i) v (by rw [nrow_get hj i hi]; exact hv)
  rwa [Addr.add_mid, Nat.zero_add] at this
theorem ON.fr {g cap n : Nat} (h : ON s W B (.slice (some ⟨g, 0, none⟩) n cap) L) (j : Nat) : W.frozen? ⟨g, j, none⟩ = false := by
  rcases h.form with ⟨e, _⟩ | ⟨g', c', e, _⟩
  · cases e
  · cases e
    exact World.ownsRow.frozenAt h j
/-- the last one is taken off -/
theorem ON.pop {g cap n : Nat} {e : En} (h : ON s W B (.slice (some ⟨g, 0, none⟩) n cap) (L ++ [e])) : ON s W B (.slice (some ⟨g, 0, none⟩) L.length cap) L := by
  rcases h.2 with ⟨e, _⟩ | ⟨g', cap', cur, hv, hb, hg, hc, hm, hs, ht⟩
  · cases e
  · cases hv
    rw [List.length_append] at hc ht
    refine ⟨nrow_length L, .inr ⟨g, cap, cur, rfl, hb, hg, by omega, hm, hs, ?_⟩⟩
    have := congrArg (List.take (L.length * 136)) ht
    rw [List.take_take, show min (L.length * 136) ((L.length + [e].length) * 136) = L.length * 136 by rw [Nat.add_mul]; omega] at this
    rw [this, nrow_append, List.take_left' (nrow_length L)]
end
theorem ixN (W : World) {g n cap j : Nat} (hj : j < n) : (Instr.indexAt 69 (.slice (some ⟨g, 0, none⟩) n cap) (.int .i64 (j : Int))).run Try.prog W = .ok (.pointer (some ⟨g, j * 136, none⟩)) W := by
  rw [run_indexAt_slice W 69 _ n cap .i64 j (by kernel_rfl), if_pos ⟨by omega, by omega⟩, show Try.prog.elem 69 = 67 by kernel_rfl, Try.sizeOf67]
  simp only [Result.andThen_ok, Int.toNat_natCast, Addr.add_mid, Nat.zero_add]
/-- a slice of one node -/
theorem built1N (cs : List Value) (hl : cs.length = 136) : Try.prog.builtSlice 67 1 [(0, .agg cs.toArray)] = some cs.toArray := by
  obtain ⟨i0, hi, hz0, hz1, hz2⟩ := info_parts infoNz
  unfold Program.builtSlice
  rw [hi]
  simp only [hz0, hz1]
  rw [if_neg (by omega)]
  have := Great.fill_whole (s := 136) (by omega) [Value.agg cs.toArray] ((Array.range (1 * 136)).map ((Value.agg zn.toArray).cells[· % (Value.agg zn.toArray).cells.size]!)) (fun v hv => by simp at hv; subst hv; simp [Value.cells, hl]) (by simp)
  simpa [Value.cells] using this
theorem wpList_build1N {ops : Array Oper} {rest : List Oper} {o : Oper} {a : Act} {w : World} {Q : Exit → Act → World → Prop} (hg : o.guard = none) (x : Operand) (ho : o.op = .buildSlice 69 1 #[(0, x)]) (cs : List Value) (hl : cs.length = 136) (hx : a.eval x = .agg cs.toArray)
    (h : wpList Try.prog ops Q rest (a.put o.dst (.slice (some ⟨w.heap.size, 0, none⟩) 1 1)) (w.alloc (.cells cs.toArray 67))) : wpList Try.prog ops Q (o :: rest) a w :=
  Great.wpList_buildSliceTo hg 69 67 1 _ ho w.heap.size rfl o.dst rfl Try.underlying69 cs.toArray (by simp only [List.map_toArray, List.map_cons, List.map_nil, hx]; exact built1N cs hl) h
/-- a node is put behind the others -/
theorem wpList_appN {ops : Array Oper} {rest : List Oper} {o : Oper} {a : Act} {w : World} {Q : Exit → Act → World → Prop} (hgd : o.guard = none) (x y : Operand)
    (ho : o.op = .call { callee := .builtin .append, args := #[x, y], argTypes := #[69, 69] })
    (s : Sn) (B : Nat) (v : Value) (L : List En) (hs : a.eval x = v) (hown : ON s w B v L) (g c : Nat) (e : En) (hx : a.eval y = .slice (some ⟨g, 0, none⟩) 1 c) (hc : w.rangeAt g 0 (e.c s))
    (h63 : L.length ≤ 200000000) (hB : B ≤ w.heap.size)
    (h : ∀ g' cap w', ON s w' B (.slice (some ⟨g', 0, none⟩) (L.length + 1) cap) (L ++ [e]) → w.grownBy w' v.ownBlock → (v.ownBlock = some g' ∨ g' = w.heap.size) → g' < w'.heap.size → wpList Try.prog ops Q rest (a.put o.dst (.slice (some ⟨g', 0, none⟩) (L.length + 1) cap)) w') : wpList Try.prog ops Q (o :: rest) a w := by
  obtain ⟨i0, hi, hz0, hz1, hz2⟩ := info_parts infoNz
  refine wpList_append_lies w hgd x y 69 ho B 67 i0 _ 136 192 Try.underlying69 hi hz0 hz1 hz2 (by simp [Value.cells, zn_length]) (by decide) v L.length (nrow s L) hs hown ⟨g, 0, none⟩ 1 c (e.c s) hx (by rw [En.len]) ?_ (ncl_one _ _ _ _) (by omega) (by unfold maxLen; omega) (by omega) hB w.heap.size rfl ?_
  · intro j u hj
    rw [Addr.add_mid]
    exact hc j u hj
  · intro g' cap w' h1 h2 h3 h4
    refine h g' cap w' ?_ h2 h3 h4
    unfold ON
    rw [List.length_append, nrow_append, nrow_one]
    exact h1

end Go.Proofs.Ytigjbgecdaljkah

/-
  A RANGE OVER A FUNCTION THAT KEEPS MEMORY OF ITS OWN BETWEEN THE ROUNDS, and writes it: which blocks these are grows as it goes on (F).
  The caller's invariant speaks of none of them (Stb); a round leaves them as they are (Kept). No program is named here.
-/
namespace Go.Proofs.Ytigjbgecdaljkah
open Go.RowKit

/-- what is written in F, and what is new, isn't minded -/
def Stb {β : Type} (J : β → (Nat → Prop) → World → Prop) : Prop := ∀ s F F' W W', J s F W → Kp F W W' → (∀ k, F' k → F k ∨ (W.heap.size ≤ k ∧ k < W'.heap.size)) → J s F' W'
/-- these blocks are kept -/
structure Kept (F : Nat → Prop) (W W' : World) : Prop where
  size : W.heap.size ≤ W'.heap.size
  same : ∀ k, k < W.heap.size → F k → W'.heap[k]? = W.heap[k]?
theorem Kept.refl (F : Nat → Prop) (W : World) : Kept F W W := ⟨Nat.le_refl _, fun _ _ _ => rfl⟩
theorem Kept.trans {F : Nat → Prop} {A B C : World} (h : Kept F A B) (k : Kept F B C) : Kept F A C := ⟨Nat.le_trans h.size k.size, fun i hi hf => (k.same i (Nat.lt_of_lt_of_le hi h.size) hf).trans (h.same i hi hf)⟩
theorem Kept.mono {F G : Nat → Prop} {A B : World} (h : Kept F A B) (hg : ∀ k, k < A.heap.size → G k → F k) : Kept G A B := ⟨h.size, fun i hi hf => h.same i hi (hg i hi hf)⟩
theorem Kept.ofKp {F G : Nat → Prop} {A B : World} (h : Kp G A B) (hf : ∀ k, k < A.heap.size → F k → ¬ G k) : Kept F A B := ⟨h.size, fun i hi hF => h.block i hi (hf i hi hF)⟩
theorem Kept.ofBelow {F : Nat → Prop} {A B : World} (h : Below A.heap.size A B) : Kept F A B := ⟨h.size, fun i hi _ => h.block i hi⟩

theorem room_wide' (k : Nat) : Fence.wide.room k := room_wide k
/-- how deep doesn't matter -/
theorem YieldAt.deep {m : Nat} (m' : Nat) {P : Program} {l : Nat} {args : Array Value} {W : World} {R : Ending → World → Prop} (h : YieldAt Fence.wide m P l args W R) : YieldAt Fence.wide m' P l args W R := by
  obtain ⟨fn, tmps, assign, body, hy, hR⟩ := h
  exact ⟨fn, tmps, assign, body, hy, hR.1, fun c cs _ => hR.2 c cs (room_wide _)⟩

/-- what such a function does; Enc: what it hands out; G: what it reads besides -/
def SeqF {α : Type} (P : Program) (g : Nat) (lb : Array Value) (Enc : α → (Nat → Prop) → World → Array Value → Prop) (F0 G : Nat → Prop) (S Sp : List α → Prop) (w : World) : Prop :=
  ∀ (n l : Nat) (J Jx : List α → (Nat → Prop) → World → Prop) (W : World), Below w.heap.size w W → Stb J → Stb Jx →
    (∀ m pre x F W1 args, J pre F W1 → Enc x F W1 args → YieldAt Fence.wide m P l args W1 fun e W' =>
      (e = .returned (.bool true) ∧ J (pre ++ [x]) F W' ∧ Kept (fun k => F k ∨ G k) W1 W') ∨ (e = .returned (.bool false) ∧ Jx (pre ++ [x]) F W' ∧ Kept F W1 W')) →
    J [] F0 W →
    CallsIn Fence.wide n P g (#[.func (.yield l) #[] #[]] ++ lb) W fun e W' => (∃ v, e = .returned v) ∧ ((∃ xs F, S xs ∧ J xs F W') ∨ (∃ pre F, Sp pre ∧ Jx pre F W'))

/-- how a round's body may be left -/
def postF {α : Type} (G : Nat → Prop) (I : List α → (Nat → Prop) → World → Prop) (Ix : Code → List α → (Nat → Prop) → World → Prop) (xs : List α) (F : Nat → Prop) (W : World) : Exit → Act → World → Prop
  | .normal, _, W' => Kept (fun k => F k ∨ G k) W W' ∧ I xs F W'
  | .ret, _, W' => Kept F W W' ∧ Ix .ret xs F W'
  | .exit id, _, W' => Kept F W W' ∧ Ix (.exit id) xs F W'
  | .goto t, _, W' => Kept F W W' ∧ Ix (.goto t) xs F W'
  | .panic _, _, _ => False
  | .outgrown, _, _ => False

/-- a block that holds no cells is turned -/
theorem Stb.put {β : Type} {J : β → (Nat → Prop) → World → Prop} (h : Stb J) {s : β} {F : Nat → Prop} {W : World} (l : Nat) (o : Obj) (hj : J s F W) (hl : F l) : J s F (W.putObj l o) :=
  h s F F W _ hj ((Kp.refl F W).put l o (fun _ => hl)) (fun _ h => .inl h)

theorem wpIn_rangeFunc_F {α : Type} {n : Nat} {P : Program} {g : Operand} {ps : Array Tmp} {assign body : Code} {Q : Exit → Act → World → Prop} {a : Act} {w : World}
    {gf : Nat} {lb : Array Value} (hg : a.eval g = .func (.func gf) #[] lb) (eg : ∀ args w, (callFunc gf args).run P w = .ok (.enter gf args) w)
    {Enc : α → (Nat → Prop) → World → Array Value → Prop} {F0 G : Nat → Prop} {S Sp : List α → Prop} {w0 : World} (hseq : SeqF P gf lb Enc F0 G S Sp w0) (hb0 : Below w0.heap.size w0 w)
    (hps : ∀ x F W args, Enc x F W args → args.size = ps.size) (hG : ∀ k, G k → k < w.heap.size) (hF0 : ∀ k, F0 k → k < w.heap.size)
    (hE : ∀ x F F' W W' args, Enc x F W args → W.heap.size ≤ W'.heap.size → (∀ k, F k → F' k) → (∀ k, F' k → F k ∨ ∃ o : Obj, W.heap[k]? = some o ∧ o.isCells = false) → (∀ k, k < W.heap.size → (∃ o : Obj, W.heap[k]? = some o ∧ o.isCells = true) → W'.heap[k]? = W.heap[k]?) → Enc x F' W' args)
    (I : List α → (Nat → Prop) → World → Prop) (Ix : Code → List α → (Nat → Prop) → World → Prop) (hI : Stb I) (hIx : ∀ c, Stb (Ix c)) (h0 : I [] F0 w) (a₁ : Array Value → Act)
    (hassign : ∀ (l : Nat) (args : Array Value) (W : World) (K : Act → World → Prop), args.size = ps.size → K (a₁ args) W →
      assign.wpIn (Fence.wide.inRound l) n P (Exit.then K (fun _ _ _ => False)) { tmps := (ps.zip args).foldl (fun t (p, v) => t.setIfInBounds p v) a.tmps, defers := [] } W)
    (hbody : ∀ (l : Nat) (pre : List α) (x : α) (F : Nat → Prop) (W : World) (args : Array Value), I pre F W → Enc x F W args → body.wpIn (Fence.wide.inRound l) n P (postF G I Ix (pre ++ [x]) F W) (a₁ args) W)
    (hdone : ∀ (D : Nat) (xs : List α) (F : Nat → Prop) (W : World), w.heap.size ≤ D → F D → S xs → I xs F W → W.heap[D]? = some (.deferred (some [])) → Q .normal { a with defers := { target := .collected D, args := #[] } :: a.defers } W)
    (hstop : ∀ (D : Nat) (c : Code) (pre : List α) (F : Nat → Prop) (W : World), w.heap.size ≤ D → F D → Sp pre → Ix c pre F W → W.heap[D]? = some (.deferred (some [])) → c.wpIn Fence.wide n P Q { a with defers := { target := .collected D, args := #[] } :: a.defers } W) :
    (Code.rangeFunc g ps assign body).wpIn Fence.wide n P Q a w := by
  refine wpIn_rangeFunc ?_
  intro fn hfn
  rw [show Fence.wide.round = none from rfl]
  obtain ⟨rec, hrec⟩ : ∃ rec : LoopState → Option Code → Loop, rec = fun st pe => { state := st, pending := pe, fn, tmps := a.tmps, params := ps, assign, body, defers := w.heap.size } := ⟨_, rfl⟩
  obtain ⟨W1, hW1⟩ : ∃ W1, (w.alloc (.deferred (some []))).alloc (.loop (rec .ready none)) = W1 := ⟨_, rfl⟩
  generalize hD : w.heap.size = D at *
  have hL1 : W1.heap[D + 1]? = some (.loop (rec .ready none)) := by
    rw [← hW1, ← hD]; have := World.alloc_heap_new (w.alloc (.deferred (some []))) (.loop (rec .ready none)); rwa [World.size_alloc] at this
  have hK1 : W1.heap[D]? = some (.deferred (some [])) := by
    rw [← hW1, ← hD]; exact (Below.heap_alloc _ _ _ (by simp)).trans (World.alloc_heap_new w _)
  have hbel : Below w.heap.size w W1 := by rw [← hW1]; exact ((Below.refl _ w).alloc (Nat.le_refl _) _).alloc (by simp) _
  -- the two blocks of the loop are the iterator's, as the caller sees it
  obtain ⟨U, hU⟩ : ∃ U : (Nat → Prop) → Nat → Prop, U = fun F k => F k ∨ k = D ∨ k = D + 1 := ⟨_, rfl⟩
  have hUF : ∀ F k, F k → U F k := fun F k h => by rw [hU]; exact .inl h
  have hU1 : ∀ F, U F (D + 1) := fun F => by rw [hU]; exact .inr (.inr rfl)
  have hU0 : ∀ F, U F D := fun F => by rw [hU]; exact .inr (.inl rfl)
  refine ⟨D + 1, [{ target := .collected D, args := #[] }], W1, { target := .fn (.func gf) lb, args := #[.func (.yield (D + 1)) #[] #[]] }, W1, gf, #[.func (.yield (D + 1)) #[] #[]] ++ lb, W1, ?_, ?_, fun _ _ => trivial, ?_, fun h => (by cases h), ?_⟩
  · rw [← hW1, hrec, ← hD]; exact run_enterLoop_outer _ _ _ _ _
  · simp only [resolve, hg]
    simp [go_sem]
  · simp [invoke, go_sem, eg]
  have stab : ∀ {β : Type} (X : β → (Nat → Prop) → World → Prop) (o : β → Obj), Stb X → Stb (fun s F W => X s (U F) W ∧ W.heap[D + 1]? = some (o s) ∧ W.heap[D]? = some (.deferred (some [])) ∧ ¬ F (D + 1) ∧ ¬ F D) := by
    intro β X o hX s F F' A B h hk hF
    obtain ⟨h1, h2, h3, h4, h5⟩ := h
    have l2 := (Array.getElem?_eq_some_iff.1 h2).1
    have l3 := (Array.getElem?_eq_some_iff.1 h3).1
    refine ⟨hX s (U F) (U F') A B h1 (hk.mono fun i _ hi => hUF F i hi) (fun k hk' => ?_), (hk.block _ l2 h4).trans h2, (hk.block _ l3 h5).trans h3, fun h => ?_, fun h => ?_⟩
    · rw [hU] at hk' ⊢
      rcases hk' with e | e | e
      · rcases hF k e with e | e
        · exact .inl (.inl e)
        · exact .inr e
      · exact .inl (.inr (.inl e))
      · exact .inl (.inr (.inr e))
    · rcases hF _ h with e | e
      · exact h4 e
      · omega
    · rcases hF _ h with e | e
      · exact h5 e
      · omega
  refine (hseq (n - 1) (D + 1)
    (fun pre F W => I pre (U F) W ∧ W.heap[D + 1]? = some (.loop (rec .ready none)) ∧ W.heap[D]? = some (.deferred (some [])) ∧ ¬ F (D + 1) ∧ ¬ F D)
    (fun pre F W => ∃ c, Ix c pre (U F) W ∧ W.heap[D + 1]? = some (.loop (rec .done (some c))) ∧ W.heap[D]? = some (.deferred (some [])) ∧ ¬ F (D + 1) ∧ ¬ F D)
    W1 (hb0.trans (hbel.mono hb0.size)) (stab I (fun _ => .loop (rec .ready none)) hI) ?_ ?_ ?_).mono ?_
  · intro s F F' A B h hk hF
    obtain ⟨c, h⟩ := h
    exact ⟨c, stab (Ix c) (fun _ => .loop (rec .done (some c))) (hIx c) s F F' A B h hk hF⟩
  · -- a round
    rintro m pre x F W args ⟨hi, hl, hk, hf1, hf0⟩ henc
    have hlt : D + 1 < W.heap.size := (Array.getElem?_eq_some_iff.1 hl).1
    have hsz := hps x F W args henc
    have hy := run_yield (P := P) (args := args) hl (by rw [hrec]; exact hsz)
    rw [hrec] at hy
    refine YieldAt.deep (m := n) m ⟨fn, _, assign, body, hy, roundIn_of_wpIn hfn (hassign (D + 1) args W _ hsz ?_)⟩
    clear hy
    refine ⟨_, run_beginRound hl (by rw [hrec]), ?_⟩
    obtain ⟨W2, hW2⟩ : ∃ W2, W.putObj (D + 1) (.loop { rec .ready none with state := .busy }) = W2 := ⟨_, rfl⟩
    rw [hW2]
    have hz2 : W2.heap.size = W.heap.size := by rw [← hW2]; simp
    have ho2 : ∀ k, k ≠ D + 1 → W2.heap[k]? = W.heap[k]? := fun k hk => by rw [← hW2]; exact World.putObj_heap_other hk
    have hl2 : W2.heap[D + 1]? = some (.loop { rec .ready none with state := .busy }) := by rw [← hW2]; exact World.putObj_heap_same hlt
    have hi2 : I pre (U F) W2 := by rw [← hW2]; exact hI.put _ _ hi (hU1 F)
    have he2 : Enc x (U F) W2 args := hE x F (U F) W W2 args henc (by omega) (hUF F) (fun k h => by
        rw [hU] at h
        rcases h with h | h | h
        · exact .inl h
        · subst h; exact .inr ⟨_, hk, rfl⟩
        · subst h; exact .inr ⟨_, hl, rfl⟩) (fun k _ h => ho2 k (fun e => by
        subst e
        obtain ⟨o, h1, h2⟩ := h
        rw [hl] at h1
        cases h1
        cases h2))
    refine wpIn_mono (hbody (D + 1) pre x (U F) W2 args hi2 he2) ?_
    have fin : ∀ (jump : Option Code) (W3 : World), Kept (U F) W2 W3 →
        (Instr.endRound (D + 1) jump).run P W3 = .ok (.bool jump.isNone) (W3.putObj (D + 1) (.loop (rec (if jump.isNone then .ready else .done) jump))) ∧
        (W3.putObj (D + 1) (.loop (rec (if jump.isNone then .ready else .done) jump))).heap[D + 1]? = some (.loop (rec (if jump.isNone then .ready else .done) jump)) ∧
        (W3.putObj (D + 1) (.loop (rec (if jump.isNone then .ready else .done) jump))).heap[D]? = some (.deferred (some [])) := fun jump W3 h3 => by
      have hl3 : W3.heap[D + 1]? = some (.loop { rec .ready none with state := .busy }) := (h3.same _ (by omega) (hU1 F)).trans hl2
      have hk3 : W3.heap[D]? = some (.deferred (some [])) := (h3.same _ (by omega) (hU0 F)).trans ((ho2 D (by omega)).trans hk)
      have := run_endRound (P := P) jump hl3
      rw [hrec] at this ⊢
      exact ⟨this, World.putObj_heap_same (Array.getElem?_eq_some_iff.1 hl3).1, (World.putObj_heap_other (by omega)).trans hk3⟩
    have keptF : ∀ (W3 : World) (o : Obj), Kept (U F) W2 W3 → Kept F W (W3.putObj (D + 1) o) := fun W3 o h3 => by
      have hz := h3.size
      refine ⟨by simp; omega, fun k hk' hfk => ?_⟩
      have hne : k ≠ D + 1 := fun e => by subst e; exact hf1 hfk
      rw [World.putObj_heap_other hne, h3.same k (by omega) (hUF F k hfk), ho2 k hne]
    rintro e a3 W3 hp
    cases e with
    | normal =>
      obtain ⟨h3, hi3⟩ := hp
      obtain ⟨hr, hl4, hk4⟩ := fin none W3 (h3.mono fun _ _ h => .inl h)
      refine ⟨_, _, hr, .inl ⟨rfl, ⟨hI.put _ _ hi3 (hU1 F), hl4, hk4, hf1, hf0⟩, ?_⟩⟩
      have hz := h3.size
      refine ⟨by simp; omega, fun k hk' hfk => ?_⟩
      have hne : k ≠ D + 1 := fun e => by
        subst e
        rcases hfk with h | h
        · exact hf1 h
        · have := hG _ h; omega
      rw [World.putObj_heap_other hne, h3.same k (by omega) (hfk.elim (fun h => .inl (hUF F k h)) .inr), ho2 k hne]
    | ret =>
      obtain ⟨h3, hi3⟩ := hp
      obtain ⟨hr, hl4, hk4⟩ := fin (some .ret) W3 h3
      exact ⟨_, _, hr, .inr ⟨rfl, ⟨.ret, (hIx _).put _ _ hi3 (hU1 F), hl4, hk4, hf1, hf0⟩, keptF W3 _ h3⟩⟩
    | exit id =>
      obtain ⟨h3, hi3⟩ := hp
      obtain ⟨hr, hl4, hk4⟩ := fin (some (.exit id)) W3 h3
      exact ⟨_, _, hr, .inr ⟨rfl, ⟨.exit id, (hIx _).put _ _ hi3 (hU1 F), hl4, hk4, hf1, hf0⟩, keptF W3 _ h3⟩⟩
    | goto t =>
      obtain ⟨h3, hi3⟩ := hp
      obtain ⟨hr, hl4, hk4⟩ := fin (some (.goto t)) W3 h3
      exact ⟨_, _, hr, .inr ⟨rfl, ⟨.goto t, (hIx _).put _ _ hi3 (hU1 F), hl4, hk4, hf1, hf0⟩, keptF W3 _ h3⟩⟩
    | panic ch => exact hp.elim
    | outgrown => exact hp.elim
  · have z1 := (Array.getElem?_eq_some_iff.1 hL1).1
    refine ⟨hI [] F0 _ w W1 h0 (Kp.ofBelow _ hbel) (fun k h => ?_), hL1, hK1, fun h => by have := hF0 _ h; omega, fun h => by have := hF0 _ h; omega⟩
    rw [hU] at h
    rcases h with h | h | h
    · exact .inl h
    · right; omega
    · right; omega
  · -- behind the iterator
    rintro e W2 ⟨⟨v, rfl⟩, (⟨xs, F, hS, hi, hl, hk, _, _⟩ | ⟨pre, F, hSp, c, hi, hl, hk, _, _⟩)⟩
    · exact ⟨none, _, by have := run_endLoop (P := P) hl (by rw [hrec]; simp); rw [hrec] at this; exact this, hdone D xs (U F) _ (Nat.le_refl _) (hU0 F) hS (hI.put _ _ hi (hU1 F)) ((World.putObj_heap_other (by omega)).trans hk)⟩
    · exact ⟨some c, _, by have := run_endLoop (P := P) hl (by rw [hrec]; simp); rw [hrec] at this; exact this, hstop D c pre (U F) _ (Nat.le_refl _) (hU0 F) hSp ((hIx c).put _ _ hi (hU1 F)) ((World.putObj_heap_other (by omega)).trans hk)⟩

end Go.Proofs.Ytigjbgecdaljkah
