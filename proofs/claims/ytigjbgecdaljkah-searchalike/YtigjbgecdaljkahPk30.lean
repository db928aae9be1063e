/- Several texts in one, each with its own head. -/
import Derived.Test.YtigjbgecdaljkahPk15
import Derived.Test.YtigjbgecdaljkahSlG
import Derived.Test.YtigjbgecdaljkahSlV
import Derived.Test.YtigjbgecdaljkahPk21
/- Rows of bytes put behind one another; structs that are built. -/
namespace Go.Proofs.Ytigjbgecdaljkah
open Go.RowKit Go.Shelf

theorem OY.len {W : World} {B : Nat} {l : List Nat} {a : Option Addr} {n cap : Nat} (h : OY W B (.slice a n cap) l) : n = l.length := by
  rcases h.form with ⟨h1, h2⟩ | ⟨g, c, h1, _⟩
  · cases h1; rw [h2]; rfl
  · cases h1; rfl
theorem wpList_appYs {ops : Array Oper} {rest : List Oper} {o : Oper} {a : Act} {w : World} {Q : Exit → Act → World → Prop} (hgd : o.guard = none) (s x : Operand)
    (ho : o.op = .call { callee := .builtin .append, args := #[s, x], argTypes := #[33, 33] })
    (B : Nat) (v : Value) (l : List Nat) (hs : a.eval s = v) (hown : OY w B v l) (g c : Nat) (m : List Nat) (hx : a.eval x = .slice (some ⟨g, 0, none⟩) m.length c) (hc : ∀ (j : Nat) y, m[j]? = some y → w.cell? ⟨g, j, none⟩ = some (.int .u8 (y : Int)))
    (h63 : l.length + m.length ≤ 4000000) (hB : B ≤ w.heap.size)
    (h : ∀ v' w', OY w' B v' (l ++ m) → w.grownBy w' v.ownBlock → wpList Try.prog ops Q rest (a.put o.dst v') w') : wpList Try.prog ops Q (o :: rest) a w := by
  obtain ⟨i0, hi, hz0, hz1, hz2⟩ := info_parts infoY
  refine wpList_append_own w hgd s x 33 ho B 5 i0 _ 1 1 Try.underlying33 hi hz0 hz1 hz2 rfl (by decide) v l.length (yc l) hs hown ⟨g, 0, none⟩ m.length c (yc m) hx (by rw [yc_length, Nat.mul_one]) ?_ (yc_one m) (by unfold maxLen; omega) (by omega) hB ?_
  · intro j u hj
    obtain ⟨y, hy, rfl⟩ := yc_get hj
    rw [Addr.add_mid, Nat.zero_add]
    exact hc j y hy
  · intro v' w' h1 h2 _
    refine h v' w' ?_ h2
    unfold OY
    rw [List.length_append, yc_append]
    exact h1

theorem wpList_appYo {ops : Array Oper} {rest : List Oper} {o : Oper} {a : Act} {w : World} {Q : Exit → Act → World → Prop} (hgd : o.guard = none) (s x : Operand)
    (ho : o.op = .call { callee := .builtin .append, args := #[s, x], argTypes := #[33, 33] })
    (B B' : Nat) (v u : Value) (l m : List Nat) (hs : a.eval s = v) (hown : OY w B v l) (hx : a.eval x = u) (hr : OY w B' u m)
    (h63 : l.length + m.length ≤ 4000000) (hB : B ≤ w.heap.size)
    (h : ∀ v' w', OY w' B v' (l ++ m) → w.grownBy w' v.ownBlock → wpList Try.prog ops Q rest (a.put o.dst v') w') : wpList Try.prog ops Q (o :: rest) a w := by
  rcases hr.form with ⟨rfl, rfl⟩ | ⟨g, cap, rfl, _⟩
  · obtain ⟨i0, hi, hz0, hz1, hz2⟩ := info_parts infoY
    refine wpList_append_own_none hgd s x 33 ho B 5 i0 1 Try.underlying33 hi v l.length (yc l) hs hown hx ?_
    refine h v w ?_ (World.grownBy.refl w _)
    rw [List.append_nil]; exact hown
  · exact wpList_appYs hgd s x ho B v l hs hown g cap m hx (fun j y hy => hr.cell hy) h63 hB h

theorem OY.fr {W : World} {B : Nat} {l : List Nat} {g cap n : Nat} (h : OY W B (.slice (some ⟨g, 0, none⟩) n cap) l) (j : Nat) : W.frozen? ⟨g, j, none⟩ = false := by
  have hn := h.len
  subst hn
  exact World.ownsRow.frozenAt h j
theorem OY.put {W : World} {B : Nat} {l : List Nat} {g cap n : Nat} (h : OY W B (.slice (some ⟨g, 0, none⟩) n cap) l) (i x : Nat) : OY (W.setCell ⟨g, i, none⟩ (.int .u8 (x : Int))) B (.slice (some ⟨g, 0, none⟩) n cap) (l.set i x) := by
  have hn := h.len
  subst hn
  have := (World.ownsRow.stored h i (.int .u8 (x : Int))).1
  unfold OY
  unfold yc at this ⊢
  rw [List.length_set, List.map_set]
  exact this
theorem wpList_buildS {ops : Array Oper} {rest : List Oper} {o : Oper} {a : Act} {w : World} {Q : Exit → Act → World → Prop} (hg : o.guard = none) (t : TypeId) (parts : Array (Nat × Operand)) (ho : o.op = .build t parts) (ps : List (Nat × Value)) (hp : (parts.map fun (i, x) => (i, a.eval x)).toList = ps) (cells : Array Value) (hb : Try.prog.built t ps = some cells)
    (h : wpList Try.prog ops Q rest (a.put o.dst (.agg cells)) w) : wpList Try.prog ops Q (o :: rest) a w := by
  refine wpList_build hg t parts ho (by rw [hp, hb]; rfl) ?_
  rw [hp, hb]
  exact h

end Go.Proofs.Ytigjbgecdaljkah

/- A new tree: the program. -/
namespace Go.Proofs.Ytigjbgecdaljkah
open Go.RowKit Go.Shelf

theorem mkBh (n : Nat) (hn : n ≤ 1000) (W : World) : (Instr.makeSlice 31 (.int .i64 (n : Int)) (.int .i64 (n : Int))).run Try.prog W = .ok (.slice (some ⟨W.heap.size, 0, none⟩) n n) (W.alloc (.cells (List.replicate n (Value.slice none 0 0)).toArray 42)) := by
  obtain ⟨i, hi, h1, h2, h3⟩ := info_h infoHL
  have := run_make (P := Try.prog) W 31 42 i _ Try.underlying31 hi h1 .i64 .i64 (n : Int) (n : Int) (by omega) (by omega) (by
    have : (i.bytes : Int) * (n : Int) ≤ 24 * 1000 := Int.mul_le_mul (by omega) (by omega) (by omega) (by omega)
    omega) (by omega)
  rw [this, h2, Int.toNat_natCast, made_one _ rfl, Nat.mul_one]

theorem wpOp_val {P : Program} {ops : Array Oper} {Q : Exit → Act → World → Prop} {i : Nat} {o : Oper} {K : Act → World → Prop} {a : Act} {w w' : World} {v : Value} (hi : ops[i]? = some o) (hw : Region.wanted o (yielded ops a.tmps) = true) (hrun : (execOp a.eval o).run P w = .ok (.value v) w') (h : K (a.put o.dst v) w') : wpOp P ops Q i K a w := by
  unfold wpOp
  rw [hi]
  simp only
  rw [if_pos hw]
  refine .inl ?_
  unfold Oper.wp
  rw [hrun]
  exact h
theorem wpOp_load27 {ops : Array Oper} {Q : Exit → Act → World → Prop} {i : Nat} {o : Oper} {K : Act → World → Prop} {a : Act} {w : World} (hi : ops[i]? = some o) (hw : Region.wanted o (yielded ops a.tmps) = true) (x : Operand) (ho : o.op = .load 27 x)
    (b : Nat) (s : St) (vc vw : Value) (hx : a.eval x = .pointer (some ⟨b, 0, none⟩)) (hr : NB w b s vc vw) (h : K (a.put o.dst (.agg (nv s vc vw).toArray)) w) : wpOp Try.prog ops Q i K a w :=
  wpOp_val hi hw (by unfold execOp; simp only [ho, Sem.run_bind, Sem.run_pure, Result.andThen_ok, hx, load27 w b s vc vw hr.range]) h
theorem wpOp_loadRs {ops : Array Oper} {Q : Exit → Act → World → Prop} {i : Nat} {o : Oper} {K : Act → World → Prop} {a : Act} {w : World} (hi : ops[i]? = some o) (hw : Region.wanted o (yielded ops a.tmps) = true) (x : Operand) (ho : o.op = .load 24 x)
    (b f : Nat) (v : Value) (hx : a.eval x = .pointer (some ⟨b, f, none⟩)) (hr : w.cell? ⟨b, f, none⟩ = some v) (h : K (a.put o.dst v) w) : wpOp Try.prog ops Q i K a w :=
  wpOp_val hi hw (by unfold execOp; simp only [ho, Sem.run_bind, Sem.run_pure, Result.andThen_ok, hx, loadRs w b f v hr]) h
theorem wpOp_mkB {ops : Array Oper} {Q : Exit → Act → World → Prop} {i : Nat} {o : Oper} {K : Act → World → Prop} {a : Act} {w : World} (hi : ops[i]? = some o) (hw : Region.wanted o (yielded ops a.tmps) = true) (x y : Operand) (ho : o.op = .makeSlice 31 x y)
    (n : Nat) (hn : n ≤ 1000) (hx : a.eval x = .int .i64 (n : Int)) (hy : a.eval y = .int .i64 (n : Int)) (h : K (a.put o.dst (.slice (some ⟨w.heap.size, 0, none⟩) n n)) (w.alloc (.cells (Array.replicate n (Value.slice none 0 0)) 42))) : wpOp Try.prog ops Q i K a w :=
  wpOp_val hi hw (by unfold execOp; simp only [ho, Sem.run_bind, Sem.run_pure, Result.andThen_ok, hx, hy, mkBh n hn w, List.toArray_replicate]) h
theorem yields_val {P : Program} {ops : Array Oper} {o : Oper} {a : Act} {v : Value} (hw : Region.wanted o (yielded ops a.tmps) = true) (h : ∀ w, (execOp a.eval o).run P w = .ok (.value v) w) : Yields P ops o v a := .inl ⟨hw, h⟩
theorem built_tree (s : St) (vc vw : Value) (a : Option Addr) (n c : Nat) : Try.prog.built 74 [(0, .agg (nv s vc vw).toArray), (1, .slice a n c)] = some (tcl s vc vw (.slice a n c)).toArray := by kernel_rfl
/-- while a tree is made -/
structure Tn (W wr : World) (s : Sn) (vc vw : Value) (us : List Value) (rows : List (List Int)) : Prop where
  nb : NB wr W.heap.size s.st vc vw
  tb : wr.heap[W.heap.size + 1 + 1]? = some (.cells (tcl s.st vc vw (.slice (some ⟨W.heap.size + 1, 0, none⟩) s.cs.length s.cs.length)).toArray 74 (0, 0))
  ow : OW wr (W.heap.size + 1) (W.heap.size + 1) us rows
  nt : ∀ (c : Nat) u, us[c]? = some u → u.ownBlock ≠ some (W.heap.size + 1 + 1)
  bel : Below W.heap.size W wr
section
variable {W wr w' : World} {s : Sn} {vc vw : Value} {us : List Value} {rows : List (List Int)}
theorem Tn.next (h : Tn W wr s vc vw us rows) (hb : Below wr.heap.size wr w') : Tn W w' s vc vw us rows := ⟨h.nb.below' hb, (hb.block _ (Array.getElem?_eq_some_iff.1 h.tb).1).trans h.tb, h.ow.next hb, h.nt, below_class h.bel hb⟩
theorem Tn.c15 (h : Tn W wr s vc vw us rows) : wr.cell? ⟨W.heap.size + 1 + 1, 15, none⟩ = some (.slice (some ⟨W.heap.size + 1, 0, none⟩) s.cs.length s.cs.length) := blk_cell h.tb 15
/-- a new list is laid -/
theorem Tn.lay (h : Tn W wr s vc vw us rows) {c : Nat} {u' : Value} {l : List Int} (hcp : c < rows.length) (hb : Below wr.heap.size wr w') (hf : ∀ q, u'.ownBlock = some q → wr.heap.size ≤ q) (ho : OI w' (W.heap.size + 1) u' l) : Tn W (w'.setCell ⟨W.heap.size + 1, c, none⟩ u') s vc vw (us.set c u') (rows.set c l) := by
  have h1 := h.next hb
  have htl := (Array.getElem?_eq_some_iff.1 h.tb).1
  have hcl : c < us.length := by rw [h.ow.len]; exact hcp
  refine ⟨?_, ?_, h.ow.put hcp hb hf ho, fun d v hv => ?_, h1.bel.setCell (p := ⟨W.heap.size + 1, c, none⟩) (by show W.heap.size ≤ W.heap.size + 1; omega) _⟩
  · unfold NB
    rw [Below.heap_setCell w' ⟨W.heap.size + 1, c, none⟩ _ _ (by show W.heap.size ≠ W.heap.size + 1; omega)]
    exact h1.nb
  · rw [Below.heap_setCell w' ⟨W.heap.size + 1, c, none⟩ _ _ (by show W.heap.size + 1 + 1 ≠ W.heap.size + 1; omega)]
    exact h1.tb
  · by_cases e : c = d
    · subst e
      rw [List.getElem?_set_self hcl] at hv
      cases hv
      exact fun e => by have := hf _ e; omega
    · rw [List.getElem?_set_ne e] at hv
      exact h.nt d v hv
/-- a number is written -/
theorem Tn.put (h : Tn W wr s vc vw us rows) {c : Nat} {gl n cap : Nat} {l : List Int} (hu : us[c]? = some (.slice (some ⟨gl, 0, none⟩) n cap)) (hl : rows[c]? = some l) (j : Nat) (v : Int) : Tn W (wr.setCell ⟨gl, j, none⟩ (.int .i64 v)) s vc vw us (rows.set c (l.set j v)) := by
  have ou := h.ow.li c _ l hu hl
  have hlt := ou.lt gl rfl
  have hne : gl ≠ W.heap.size + 1 + 1 := fun e => h.nt c _ hu (by rw [← e]; rfl)
  have hk : Kp (fun k => (Value.slice (some ⟨gl, 0, none⟩) n cap).ownBlock = some k) wr (wr.setCell ⟨gl, j, none⟩ (.int .i64 v)) := (Kp.refl _ wr).set gl j _ (fun _ => rfl)
  refine ⟨h.nb.kp hk (fun e => ?_), (hk.block _ (Array.getElem?_eq_some_iff.1 h.tb).1 (fun e => ?_)).trans h.tb, h.ow.turn hu hl hk (ou.put j v), h.nt, hk.below h.bel h.bel.size (fun i hi e => ?_)⟩
  · have e2 : gl = W.heap.size := by simpa [Value.ownBlock] using e
    omega
  · have e2 : gl = W.heap.size + 1 + 1 := by simpa [Value.ownBlock] using e
    exact hne e2
  · have e2 : gl = i := by simpa [Value.ownBlock] using e
    omega
end
/-- the times behind the first cars -/
def bhk (s : Sn) (c : Nat) : List (List Int) := (bhd s).take c ++ List.replicate (s.cs.length - c) []
/-- and behind the next one, of the first wants -/
def bhj (s : Sn) (c j : Nat) : List Int := ((s.ws.take j).map fun y => alo s (c + 1) y) ++ List.replicate (s.ws.length - j) 0
theorem bhk_zero (s : Sn) : bhk s 0 = List.replicate s.cs.length [] := by unfold bhk; simp
theorem bhk_end (s : Sn) : bhk s s.cs.length = bhd s := by
  unfold bhk
  rw [List.take_of_length_le (by rw [bhd_length]; exact Nat.le_refl _), Nat.sub_self]; simp
theorem bhk_length {s : Sn} {c : Nat} (h : c ≤ s.cs.length) : (bhk s c).length = s.cs.length := by unfold bhk; simp [bhd_length]; omega
theorem bhk_succ {s : Sn} {c : Nat} (h : c < s.cs.length) : (bhk s c).set c (s.ws.map fun y => alo s (c + 1) y) = bhk s (c + 1) := by
  unfold bhk
  rw [List.set_append_right _ _ (by rw [List.length_take, bhd_length]; omega), List.length_take, bhd_length, show c - min c s.cs.length = 0 by omega, show s.cs.length - c = (s.cs.length - (c + 1)) + 1 by omega, List.replicate_succ, List.set_cons_zero, take_snoc (bhd_get s h), List.append_assoc]
  rfl
theorem bhj_zero (s : Sn) (c : Nat) : bhj s c 0 = List.replicate s.ws.length 0 := by unfold bhj; simp
theorem bhj_end (s : Sn) (c : Nat) : bhj s c s.ws.length = s.ws.map fun y => alo s (c + 1) y := by unfold bhj; simp
theorem bhj_length {s : Sn} {c j : Nat} (h : j ≤ s.ws.length) : (bhj s c j).length = s.ws.length := by unfold bhj; simp; omega
theorem bhj_succ {s : Sn} {c j : Nat} {y : Int × Int} (h : s.ws[j]? = some y) : (bhj s c j).set j (alo s (c + 1) y) = bhj s c (j + 1) := by
  have hj : j < s.ws.length := (List.getElem?_eq_some_iff.1 h).1
  unfold bhj
  rw [List.set_append_right _ _ (by rw [List.length_map, List.length_take]; omega), List.length_map, List.length_take, show j - min j s.ws.length = 0 by omega, show s.ws.length - j = (s.ws.length - (j + 1)) + 1 by omega, List.replicate_succ, List.set_cons_zero, take_snoc h, List.map_append, List.append_assoc]
  rfl

end Go.Proofs.Ytigjbgecdaljkah
