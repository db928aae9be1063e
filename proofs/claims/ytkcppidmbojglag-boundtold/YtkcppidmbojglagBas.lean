/- Several texts in one, each with its own head. -/
import Derived.Test.YtkcppidmbojglagRows
import Derived.Test.YtkcppidmbojglagMth
import Derived.WalkKit
import Derived.WalkSpells
import Derived.WalkLawsBesides
import Derived.RangeFuncBox
import Derived.Deep.MidRow
import Derived.Deep.Quiet
import Derived.Deep.QuietTactic
import Derived.Deep.RegionHeld3
import Derived.Deep.DrawnRows
import Derived.StillTail
import Derived.Laws.OwnMore
import Derived.Laws.AppendOwnNone
import Derived.Deep.AppendLies
import Derived.OwnWalk
import Derived.RangeFuncNested
import Derived.RangeFuncCalls
import Derived.RangeFuncLeaves
/- A site in memory: a block of thirteen cells, kept whole. -/
namespace Go.Proofs.Ytkcppidmbojglag
open Go.RowKit

theorem Hid.intro' {p : Prop} (h : p) : Hid p := h
/-- the cells of a site -/
def sv (s : St) : List Value := [.int .i64 s.fl, .int .i64 s.ca, .int .i64 s.sta, .int .i64 s.ste, .int .i64 s.sto, .int .i64 s.opn, .int .i64 s.wai, .int .i64 s.clo, .int .i64 s.nud, .int .i64 s.age, .int .i64 s.sil, .int .i64 s.bud, .int .i64 s.per]
theorem sv_length (s : St) : (sv s).length = 13 := rfl
theorem info23 : (Try.prog.info? 23).map (·.size) = some 13 := by kernel_rfl

/-- a block that holds a site -/
def SB (W : World) (b : Nat) (s : St) : Prop := W.heap[b]? = some (.cells (sv s).toArray 23 (0, 0))
theorem SB.lt {W : World} {b : Nat} {s : St} (h : SB W b s) : b < W.heap.size := (Array.getElem?_eq_some_iff.1 h).1
theorem SB.cell {W : World} {b : Nat} {s : St} (h : SB W b s) (i : Nat) : W.cell? ⟨b, i, none⟩ = (sv s)[i]? := by
  simp [World.cell?, show W.heap[b]? = _ from h]
theorem SB.range {W : World} {b : Nat} {s : St} (h : SB W b s) : W.rangeAt b 0 (sv s) := fun j v hv => by
  rw [Nat.zero_add, h.cell, hv]
theorem SB.below {W W' : World} {B b : Nat} {s : St} (h : SB W b s) (hb : Below B W W') (hlt : b < B) : SB W' b s := (hb.block b hlt).trans h
theorem SB.below' {W W' : World} {b : Nat} {s : St} (h : SB W b s) (hb : Below W.heap.size W W') : SB W' b s := h.below hb h.lt
theorem SB.alloc {W : World} {b : Nat} {s : St} (h : SB W b s) (o : Obj) : SB (W.alloc o) b s := (Below.heap_alloc W o b h.lt).trans h
theorem SB.drew {W : World} {b : Nat} {s : St} (h : SB W b s) : SB W.drew b s := h
theorem SB.other {W : World} {b b' : Nat} {s : St} (h : SB W b s) (hne : b ≠ b') (i : Nat) (v : Value) : SB (W.setCell ⟨b', i, none⟩ v) b s :=
  (Below.heap_setCell W ⟨b', i, none⟩ v b hne).trans h
theorem SB.new (W : World) (s : St) : SB (W.alloc (.cells (sv s).toArray 23)) W.heap.size s := World.alloc_heap_new W _

theorem load23 (w : World) (b : Nat) (s : St) (h : w.rangeAt b 0 (sv s)) :
    (Instr.loadAt 23 (.pointer (some ⟨b, 0, none⟩))).run Try.prog w = .ok (.agg (sv s).toArray) w :=
  run_loadAt_mid (P := Try.prog) w b 0 23 (sv s) _ h Try.underlying23 rfl (by rw [sv_length]; exact info23)
theorem wpList_load23 {ops : Array Oper} {rest : List Oper} {op : Oper} {a : Act} {w : World} {Q : Exit → Act → World → Prop} (hgd : op.guard = none) (x : Operand) (ho : op.op = .load 23 x)
    (b : Nat) (s : St) (hx : a.eval x = .pointer (some ⟨b, 0, none⟩)) (hr : SB w b s)
    (h : wpList Try.prog ops Q rest (a.put op.dst (.agg (sv s).toArray)) w) : wpList Try.prog ops Q (op :: rest) a w :=
  wpList_plain hgd fun _ hK => by
    unfold Oper.wp execOp
    simp only [ho, Sem.run_bind, Sem.run_pure, Result.andThen_ok, hx, load23 w b s hr.range]
    exact hK _ _ h

theorem wpList_load23g {ops : Array Oper} {rest : List Oper} {op : Oper} {a : Act} {w : World} {Q : Exit → Act → World → Prop} (hgd : Region.wanted op (yielded ops a.tmps) = true) (x : Operand) (ho : op.op = .load 23 x)
    (b : Nat) (s : St) (hx : a.eval x = .pointer (some ⟨b, 0, none⟩)) (hr : SB w b s)
    (h : wpList Try.prog ops Q rest (a.put op.dst (.agg (sv s).toArray)) w) : wpList Try.prog ops Q (op :: rest) a w :=
  wpList_step fun _ hK => by
    rw [if_pos hgd]
    unfold Oper.wp execOp
    simp only [ho, Sem.run_bind, Sem.run_pure, Result.andThen_ok, hx, load23 w b s hr.range]
    exact hK _ _ h

/- one operation of a region that draws its order and only reads, in a class of worlds -/
theorem wpQuiet_val {P : Program} {ops : Array Oper} {C : World → Prop} {Q : Act → Prop} {rest : List Oper} {o : Oper} {a : Act} (v : Value) (hw : Region.wanted o (yielded ops a.tmps) = true)
    (hrun : ∀ w, C w → (execOp a.eval o).run P w = .ok (.value v) w) (h : wpQuiet P ops C Q rest (a.put o.dst v)) : wpQuiet P ops C Q (o :: rest) a := by
  unfold wpQuiet
  rw [if_pos hw]
  exact ⟨v, fun w hw' => by unfold Oper.quietAt; rw [hrun w hw']; exact ⟨rfl, rfl⟩, h⟩
theorem wpQuiet_call {P : Program} {ops : Array Oper} {C : World → Prop} {Q : Act → Prop} {rest : List Oper} {o : Oper} {a : Act} (f : FuncId) (args : Array Value) (v : Value) (hw : Region.wanted o (yielded ops a.tmps) = true)
    (hrun : ∀ w, C w → (execOp a.eval o).run P w = .ok (.enter f args) w) (hc : ∀ w, C w → Calls P f args w fun e w'' => e = .returned v ∧ C w'')
    (h : wpQuiet P ops C Q rest (a.put o.dst v)) : wpQuiet P ops C Q (o :: rest) a := by
  unfold wpQuiet
  rw [if_pos hw]
  exact ⟨v, fun w hw' => by unfold Oper.quietAt; rw [hrun w hw']; exact ⟨rfl, hc w hw'⟩, h⟩
theorem wpQuiet_skip {P : Program} {ops : Array Oper} {C : World → Prop} {Q : Act → Prop} {rest : List Oper} {o : Oper} {a : Act} (hw : Region.wanted o (yielded ops a.tmps) = false)
    (h : wpQuiet P ops C Q rest (a.put o.dst undef)) : wpQuiet P ops C Q (o :: rest) a := by
  unfold wpQuiet
  rw [if_neg (by rw [hw]; simp)]
  exact h
theorem wpQuiet_load23 {ops : Array Oper} {C : World → Prop} {Q : Act → Prop} {rest : List Oper} {o : Oper} {a : Act} (x : Operand) (b : Nat) (s : St) (hw : Region.wanted o (yielded ops a.tmps) = true)
    (ho : o.op = .load 23 x) (hx : a.eval x = .pointer (some ⟨b, 0, none⟩)) (hr : ∀ w, C w → SB w b s)
    (h : wpQuiet Try.prog ops C Q rest (a.put o.dst (.agg (sv s).toArray))) : wpQuiet Try.prog ops C Q (o :: rest) a :=
  wpQuiet_val _ hw (fun w hw' => by unfold execOp; simp only [ho, hx, Sem.run_bind, Sem.run_pure, Result.andThen_ok, load23 w b s (hr w hw').range]) h
theorem load3 (w : World) (b o : Nat) (v : Value) (h : w.cell? ⟨b, o, none⟩ = some v) : (Instr.loadAt 3 (.pointer (some ⟨b, o, none⟩))).run Try.prog w = .ok v w := by simp [go_sem, h]
theorem wpQuiet_load3 {ops : Array Oper} {C : World → Prop} {Q : Act → Prop} {rest : List Oper} {o : Oper} {a : Act} (x : Operand) (b k : Nat) (v : Value) (hw : Region.wanted o (yielded ops a.tmps) = true)
    (ho : o.op = .load 3 x) (hx : a.eval x = .pointer (some ⟨b, k, none⟩)) (hr : ∀ w, C w → w.cell? ⟨b, k, none⟩ = some v)
    (h : wpQuiet Try.prog ops C Q rest (a.put o.dst v)) : wpQuiet Try.prog ops C Q (o :: rest) a :=
  wpQuiet_val _ hw (fun w hw' => by unfold execOp; simp only [ho, hx, Sem.run_bind, Sem.run_pure, Result.andThen_ok, load3 w b k v (hr w hw')]) h
theorem below_class {W0 w w' : World} (h : Below W0.heap.size W0 w) (h' : Below w.heap.size w w') : Below W0.heap.size W0 w' := h.trans (h'.mono h.size)

end Go.Proofs.Ytkcppidmbojglag

/- The walks of package num and of the document's answer for it: each function's contract. -/
namespace Go.Proofs.Ytkcppidmbojglag
open Go.RowKit


set_option maxHeartbeats 400000 in
theorem within_any (a : Int) (w : World) :
    Calls Try.prog 44 #[.int .i64 a] w fun e w' => e = .returned (.int .i64 (NumM.cl a)) ∧ w' = w := by
  go_enter Try.func44, Try.ntmps44
  go_wp2
  all_goals
    go_ret
    exact ⟨ret_int (by unfold NumM.cl; repeat' split
                       all_goals omega), rfl⟩

set_option maxHeartbeats 400000 in
theorem size_any (a : Int) (w : World) (h1 : -1099511627776 ≤ a) (h2 : a ≤ 1099511627776) :
    Calls Try.prog 47 #[.int .i64 a] w fun e w' => e = .returned (.int .i64 (NumM.sz a)) ∧ w' = w := by
  go_enter Try.func47, Try.ntmps47
  go_wp2
  all_goals
    go_ret
    exact ⟨ret_int (by unfold NumM.sz; split <;> omega), rfl⟩

set_option maxHeartbeats 400000 in
theorem add_any (a b : Int) (w : World) :
    Calls Try.prog 37 #[.int .i64 a, .int .i64 b] w fun e w' => e = .returned (.int .i64 (NumM.cl (NumM.cl a + NumM.cl b))) ∧ w' = w := by
  obtain ⟨a1, a2⟩ := NumM.cl_bd a
  obtain ⟨b1, b2⟩ := NumM.cl_bd b
  go_enter Try.func37, Try.ntmps37
  go_wp2_with (go_at_call 44; refine (within_any _ _).mono ?_; rintro e w' ⟨rfl, rfl⟩)
  go_ret
  exact ⟨rfl, rfl⟩

set_option maxHeartbeats 1000000 in
theorem mul_any (a b : Int) (w : World) :
    Calls Try.prog 46 #[.int .i64 a, .int .i64 b] w fun e w' => e = .returned (.int .i64 (NumM.cl (NumM.cl a * NumM.cl b))) ∧ w' = w := by
  obtain ⟨a1, a2⟩ := NumM.cl_bd a
  obtain ⟨b1, b2⟩ := NumM.cl_bd b
  have s1 := NumM.sz_nonneg (NumM.cl a)
  have s2 := NumM.sz_nonneg (NumM.cl b)
  by_cases h0 : NumM.cl a = 0
  · have hb : (NumM.cl a != 0) = false := by simp [h0]
    have H0 : Hid (NumM.cl a = 0) := h0
    have hm := NumM.mul_small (b := NumM.cl b) (Or.inl h0)
    clear h0
    go_enter Try.func46, Try.ntmps46
    go_wp2_with (first | (go_at_call 44; refine (within_any _ _).mono ?_; rintro e w' ⟨rfl, rfl⟩) | (go_at_call 47; refine (size_any _ _ (by omega) (by omega)).mono ?_; rintro e w' ⟨rfl, rfl⟩))
    go_ret
    exact ⟨ret_int (by rw [NumM.cl_in hm.1 hm.2]), rfl⟩
  · have hb : (NumM.cl a != 0) = true := by simp [h0]
    have s3 := NumM.sz_pos h0
    by_cases hq : NumM.sz (NumM.cl b) ≤ 1099511627776 / NumM.sz (NumM.cl a)
    · have hm := NumM.mul_small (Or.inr hq)
      clear h0
      go_enter Try.func46, Try.ntmps46
      go_wp2_with (first | (go_at_call 44; refine (within_any _ _).mono ?_; rintro e w' ⟨rfl, rfl⟩) | (go_at_call 47; refine (size_any _ _ (by omega) (by omega)).mono ?_; rintro e w' ⟨rfl, rfl⟩))
      go_ret
      exact ⟨ret_int (by rw [NumM.cl_in hm.1 hm.2]), rfl⟩
    · have hq' : 1099511627776 / NumM.sz (NumM.cl a) < NumM.sz (NumM.cl b) := by omega
      have HM : Hid (NumM.cl (NumM.cl a * NumM.cl b) = if (NumM.cl a < 0) ≠ (NumM.cl b < 0) then -1099511627776 else 1099511627776) := NumM.cl_mul_pass h0 hq'
      clear h0 hq
      rcases Bool.eq_false_or_eq_true (decide (NumM.cl a < 0)) with xa | xa <;> rcases Bool.eq_false_or_eq_true (decide (NumM.cl b < 0)) with xb | xb
      all_goals
        go_enter Try.func46, Try.ntmps46
        go_wp2_with (first | (go_at_call 44; refine (within_any _ _).mono ?_; rintro e w' ⟨rfl, rfl⟩) | (go_at_call 47; refine (size_any _ _ (by omega) (by omega)).mono ?_; rintro e w' ⟨rfl, rfl⟩))
        go_ret
        exact ⟨ret_int (by rw [HM.out]; simp only [decide_eq_true_eq, decide_eq_false_iff_not] at xa xb; simp [xa, xb]), rfl⟩

theorem take_snoc_i (zs : List Int) (k : Nat) (h : k < zs.length) : zs.take (k + 1) = zs.take k ++ [zs[k]?.getD 0] := by
  rw [List.take_succ_eq_append_getElem h]; simp [h]
theorem sum_take (zs : List Int) (k : Nat) (h : k < zs.length) : NumM.cl (NumM.cl (NumM.sumL (zs.take k)) + NumM.cl (zs[k]?.getD 0)) = NumM.sumL (zs.take (k + 1)) := by
  rw [take_snoc_i zs k h, NumM.sumL_snoc]

set_option maxHeartbeats 400000 in
theorem sum_any (b off len cap : Nat) (zs : List Int) (w : World) (hl : len ≤ zs.length) (hm : len ≤ 1000000)
    (hc : ∀ i, i < len → w.cell? ⟨b, off + i, none⟩ = some (.int .i64 (zs[i]?.getD 0))) :
    Calls Try.prog 43 #[.slice (some ⟨b, off, none⟩) len cap] w fun e w' => e = .returned (.int .i64 (NumM.sumL (zs.take len))) ∧ w' = w := by
  go_enter Try.func43, Try.ntmps43
  go_wp2
  go_loop [3, 8] (fun t i => ∃ k : Nat, k ≤ len ∧ i = .int .i64 k ∧ t = .int .i64 (NumM.sumL (zs.take k))) (fun _ i => len - (intOf i).toNat)
  case atStart => exact ⟨0, Nat.zero_le _, rfl, rfl⟩
  case round =>
    obtain ⟨k, hk, rfl, rfl⟩ := hrel
    by_cases hlt : k < len
    · have hcell := hc k hlt
      have HS : Hid (NumM.cl (NumM.cl (NumM.sumL (zs.take k)) + NumM.cl (zs[k]?.getD 0)) = NumM.sumL (zs.take (k + 1))) := sum_take zs k (by omega)
      clear hc
      go_wp2_with (go_at_call 37; refine (add_any _ _ _).mono ?_; rintro e w' ⟨rfl, rfl⟩)
      go_round
      case rel => exact ⟨k + 1, by omega, by go_num, by rw [HS.out]⟩
      case measure => simp [intOf]; omega
    · obtain rfl : k = len := by omega
      clear hc
      go_wp2
      go_ret
      exact ⟨rfl, rfl⟩

end Go.Proofs.Ytkcppidmbojglag

/- Travel, as the program reckons it. -/
namespace Go.Proofs.Ytkcppidmbojglag
open Go.RowKit

theorem new_drew (W : World) (o : Obj) (n : Nat) (hn : W.heap.size = n) : ((W.alloc o).drew).heap[n]? = some o := by subst hn; exact World.alloc_heap_new W o
theorem new_at (W : World) (o : Obj) (n : Nat) (hn : W.heap.size = n) : (W.alloc o).heap[n]? = some o := by subst hn; exact World.alloc_heap_new W o
/-- the sum of a row that is a block -/
theorem sum_row (W : World) (n : Nat) (zs : List Int) (L C : Nat) (hl : zs.length = L) (hm : L ≤ 100) (hn : W.heap[n]? = some (.cells (zs.map fun z => Value.int .i64 z).toArray 3)) :
    Calls Try.prog 43 #[.slice (some ⟨n, 0, none⟩) L C] W fun e w' => e = .returned (.int .i64 (NumM.sumL zs)) ∧ w' = W := by
  subst hl
  have := sum_any n 0 zs.length C zs W (Nat.le_refl _) (by omega) (fun i hi => by
    rw [Nat.zero_add]
    have e : W.cell? ⟨n, i, none⟩ = (zs.map fun z => Value.int .i64 z).toArray[i]? := by unfold World.cell?; rw [hn]; rfl
    rw [e]
    simp [hi])
  rwa [List.take_length] at this
theorem sum3 (W : World) (n : Nat) (x y z : Int) (C : Nat) (hn : W.heap[n]? = some (.cells #[.int .i64 x, .int .i64 y, .int .i64 z] 3)) :
    Calls Try.prog 43 #[.slice (some ⟨n, 0, none⟩) 3 C] W fun e w' => e = .returned (.int .i64 (NumM.sumL [x, y, z])) ∧ w' = W :=
  sum_row W n [x, y, z] 3 C rfl (by omega) hn
theorem sum4 (W : World) (n : Nat) (x y z u : Int) (C : Nat) (hn : W.heap[n]? = some (.cells #[.int .i64 x, .int .i64 y, .int .i64 z, .int .i64 u] 3)) :
    Calls Try.prog 43 #[.slice (some ⟨n, 0, none⟩) 4 C] W fun e w' => e = .returned (.int .i64 (NumM.sumL [x, y, z, u])) ∧ w' = W :=
  sum_row W n [x, y, z, u] 4 C rfl (by omega) hn

set_option maxHeartbeats 1000000 in
theorem travel_out (s : St) (a b : Int) (w : World) (HO : Hid (a < 0 ∨ b < 0 ∨ s.fl ≤ a ∨ s.fl ≤ b ∨ a = b)) :
    Calls Try.prog 42 #[.agg (sv s).toArray, .int .i64 a, .int .i64 b] w fun e w' => e = .returned (.int .i64 (SM.trav s a b)) ∧ Below w.heap.size w w' := by
  have n0 := SB.new w s
  have hc0 : (w.alloc (.cells (sv s).toArray 23)).cell? ⟨w.heap.size, 0, none⟩ = some (.int .i64 s.fl) := n0.cell 0
  have HB : Hid (Below w.heap.size w (w.alloc (.cells (sv s).toArray 23))) := Hid.intro' ((Below.refl _ w).alloc (Nat.le_refl _) _)
  have HT := Hid.intro' (SM.trav_out HO.out)
  clear n0
  go_enter Try.func42, Try.ntmps42
  go_wp2
  all_goals first
    | (go_ret; exact ⟨ret_int HT.out.symm, HB.out⟩)
    | (exfalso; have := HO.out; simp only [beq_eq_false_iff_ne] at *; omega)
set_option maxHeartbeats 1000000 in
theorem travel_up (s : St) (a b : Int) (w : World) (h2 : b < s.fl) (f1 : s.fl ≤ 64) (h1 : 0 ≤ a) (hlt : a < b) (HS : Hid (NumM.sumL [s.sta, NumM.cl (NumM.cl s.ste * NumM.cl (b - a)), s.sto] = SM.trav s a b)) :
    Calls Try.prog 42 #[.agg (sv s).toArray, .int .i64 a, .int .i64 b] w fun e w' => e = .returned (.int .i64 (SM.trav s a b)) ∧ Below w.heap.size w w' := by
  have n0 := SB.new w s
  have hc0 : (w.alloc (.cells (sv s).toArray 23)).cell? ⟨w.heap.size, 0, none⟩ = some (.int .i64 s.fl) := n0.cell 0
  have hc2 : (w.alloc (.cells (sv s).toArray 23)).cell? ⟨w.heap.size, 2, none⟩ = some (.int .i64 s.sta) := n0.cell 2
  have hc3 : (w.alloc (.cells (sv s).toArray 23)).cell? ⟨w.heap.size, 3, none⟩ = some (.int .i64 s.ste) := n0.cell 3
  have hc4 : (w.alloc (.cells (sv s).toArray 23)).cell? ⟨w.heap.size, 4, none⟩ = some (.int .i64 s.sto) := n0.cell 4
  have HB : Hid (Below w.heap.size w (w.alloc (.cells (sv s).toArray 23))) := Hid.intro' ((Below.refl _ w).alloc (Nat.le_refl _) _)
  have hx : (a == b) = false := by simp; omega
  clear n0
  go_enter Try.func42, Try.ntmps42
  go_wp2
  go_region_held3 (fun w' => w'.cell? ⟨w.heap.size, 2, none⟩ = some (.int .i64 s.sta) ∧ w'.cell? ⟨w.heap.size, 3, none⟩ = some (.int .i64 s.ste) ∧ w'.cell? ⟨w.heap.size, 4, none⟩ = some (.int .i64 s.sto)) (go_keep) (first | (go_at_call 46; refine (mul_any _ _ _).mono ?_; rintro e w' ⟨rfl, rfl⟩) | (go_at_call 43; refine (sum3 _ _ _ _ _ _ (new_drew _ _ _ (World.size_alloc _ _))).mono ?_; rintro e w' ⟨rfl, rfl⟩))
  go_wp2
  go_ret
  exact ⟨ret_int (by rw [IntWalk.i64_in _ ⟨by omega, by omega⟩]; exact HS.out), (HB.out.alloc (by simp) _).drew⟩
set_option maxHeartbeats 1000000 in
theorem travel_down (s : St) (a b : Int) (w : World) (h2 : a < s.fl) (f1 : s.fl ≤ 64) (h1 : 0 ≤ b) (hlt : b < a) (HS : Hid (NumM.sumL [s.sta, NumM.cl (NumM.cl s.ste * NumM.cl (a - b)), s.sto] = SM.trav s a b)) :
    Calls Try.prog 42 #[.agg (sv s).toArray, .int .i64 a, .int .i64 b] w fun e w' => e = .returned (.int .i64 (SM.trav s a b)) ∧ Below w.heap.size w w' := by
  have n0 := SB.new w s
  have hc0 : (w.alloc (.cells (sv s).toArray 23)).cell? ⟨w.heap.size, 0, none⟩ = some (.int .i64 s.fl) := n0.cell 0
  have hc2 : (w.alloc (.cells (sv s).toArray 23)).cell? ⟨w.heap.size, 2, none⟩ = some (.int .i64 s.sta) := n0.cell 2
  have hc3 : (w.alloc (.cells (sv s).toArray 23)).cell? ⟨w.heap.size, 3, none⟩ = some (.int .i64 s.ste) := n0.cell 3
  have hc4 : (w.alloc (.cells (sv s).toArray 23)).cell? ⟨w.heap.size, 4, none⟩ = some (.int .i64 s.sto) := n0.cell 4
  have HB : Hid (Below w.heap.size w (w.alloc (.cells (sv s).toArray 23))) := Hid.intro' ((Below.refl _ w).alloc (Nat.le_refl _) _)
  have hx : (b == a) = false := by simp; omega
  clear n0
  go_enter Try.func42, Try.ntmps42
  go_wp2
  go_region_held3 (fun w' => w'.cell? ⟨w.heap.size, 2, none⟩ = some (.int .i64 s.sta) ∧ w'.cell? ⟨w.heap.size, 3, none⟩ = some (.int .i64 s.ste) ∧ w'.cell? ⟨w.heap.size, 4, none⟩ = some (.int .i64 s.sto)) (go_keep) (first | (go_at_call 46; refine (mul_any _ _ _).mono ?_; rintro e w' ⟨rfl, rfl⟩) | (go_at_call 43; refine (sum3 _ _ _ _ _ _ (new_drew _ _ _ (World.size_alloc _ _))).mono ?_; rintro e w' ⟨rfl, rfl⟩))
  go_wp2
  go_ret
  exact ⟨ret_int (by rw [IntWalk.i64_in _ ⟨by omega, by omega⟩]; exact HS.out), (HB.out.alloc (by simp) _).drew⟩
theorem travel_any (s : St) (r : SM.Rt s) (a b : Int) (w : World) :
    Calls Try.prog 42 #[.agg (sv s).toArray, .int .i64 a, .int .i64 b] w fun e w' => e = .returned (.int .i64 (SM.trav s a b)) ∧ Below w.heap.size w w' := by
  by_cases hout : a < 0 ∨ b < 0 ∨ s.fl ≤ a ∨ s.fl ≤ b ∨ a = b
  · exact travel_out s a b w hout
  · have f1 := r.fl2
    have hne : ¬ a = b := by omega
    have HS := SM.travel_sum r (a := a) (b := b) (by omega) (by omega) (by omega) (by omega) hne
    unfold SM.dist at HS
    rcases Int.lt_or_lt_of_ne hne with hlt | hlt
    · rw [if_pos hlt] at HS
      exact travel_up s a b w (by omega) f1 (by omega) hlt HS
    · rw [if_neg (by omega)] at HS
      exact travel_down s a b w (by omega) f1 (by omega) hlt HS

end Go.Proofs.Ytkcppidmbojglag

/- Travel, service and bound, as the document's answer reckons them. -/
namespace Go.Proofs.Ytkcppidmbojglag
open Go.RowKit

theorem SB.c0 {W : World} {b : Nat} {s : St} (h : SB W b s) : W.cell? ⟨b, 0, none⟩ = some (.int .i64 s.fl) := h.cell 0
theorem SB.c2 {W : World} {b : Nat} {s : St} (h : SB W b s) : W.cell? ⟨b, 2, none⟩ = some (.int .i64 s.sta) := h.cell 2
theorem SB.c3 {W : World} {b : Nat} {s : St} (h : SB W b s) : W.cell? ⟨b, 3, none⟩ = some (.int .i64 s.ste) := h.cell 3
theorem SB.c4 {W : World} {b : Nat} {s : St} (h : SB W b s) : W.cell? ⟨b, 4, none⟩ = some (.int .i64 s.sto) := h.cell 4
theorem SB.c5 {W : World} {b : Nat} {s : St} (h : SB W b s) : W.cell? ⟨b, 5, none⟩ = some (.int .i64 s.opn) := h.cell 5
theorem SB.c6 {W : World} {b : Nat} {s : St} (h : SB W b s) : W.cell? ⟨b, 6, none⟩ = some (.int .i64 s.wai) := h.cell 6
theorem SB.c7 {W : World} {b : Nat} {s : St} (h : SB W b s) : W.cell? ⟨b, 7, none⟩ = some (.int .i64 s.clo) := h.cell 7
theorem SB.c8 {W : World} {b : Nat} {s : St} (h : SB W b s) : W.cell? ⟨b, 8, none⟩ = some (.int .i64 s.nud) := h.cell 8
theorem SB.c9 {W : World} {b : Nat} {s : St} (h : SB W b s) : W.cell? ⟨b, 9, none⟩ = some (.int .i64 s.age) := h.cell 9
theorem SB.c12 {W : World} {b : Nat} {s : St} (h : SB W b s) : W.cell? ⟨b, 12, none⟩ = some (.int .i64 s.per) := h.cell 12

set_option maxHeartbeats 1000000 in
theorem rtravel_out (s : St) (a b : Int) (w : World) (HO : Hid (a < 0 ∨ b < 0 ∨ s.fl ≤ a ∨ s.fl ≤ b ∨ a = b)) :
    Calls Try.prog 40 #[.agg (sv s).toArray, .int .i64 a, .int .i64 b] w fun e w' => e = .returned (.int .i64 (SM.trav s a b)) ∧ Below w.heap.size w w' := by
  have n0 := SB.new w s
  have hc0 := n0.c0
  have hc2 := n0.c2
  have hc4 := n0.c4
  have HB : Hid (Below w.heap.size w (w.alloc (.cells (sv s).toArray 23))) := Hid.intro' ((Below.refl _ w).alloc (Nat.le_refl _) _)
  have HT := Hid.intro' (SM.trav_out HO.out)
  clear n0
  go_enter Try.func40, Try.ntmps40
  go_wp2
  all_goals first
    | (go_ret; exact ⟨ret_int HT.out.symm, HB.out⟩)
    | (exfalso; have := HO.out; simp only [beq_eq_false_iff_ne] at *; omega)

theorem SM.step_one (c x a : Int) : c * (x + 1 - a) = c * (x - a) + c := by
  rw [show x + 1 - a = (x - a) + 1 by omega, Int.mul_add, Int.mul_one]
theorem SM.step_less (c x a : Int) : c * (a - (x - 1)) = c * (a - x) + c := by
  rw [show a - (x - 1) = (a - x) + 1 by omega, Int.mul_add, Int.mul_one]

set_option maxHeartbeats 1000000 in
theorem rtravel_up (s : St) (r : SM.Rt s) (a b : Int) (w : World) (h2 : b < s.fl) (h1 : 0 ≤ a) (hlt : a < b) :
    Calls Try.prog 40 #[.agg (sv s).toArray, .int .i64 a, .int .i64 b] w fun e w' => e = .returned (.int .i64 (SM.trav s a b)) ∧ Below w.heap.size w w' := by
  have n0 := SB.new w s
  have hc0 := n0.c0
  have hc2 := n0.c2
  have hc3 := n0.c3
  have hc4 := n0.c4
  have HB : Hid (Below w.heap.size w (w.alloc (.cells (sv s).toArray 23))) := Hid.intro' ((Below.refl _ w).alloc (Nat.le_refl _) _)
  have f1 := r.fl2
  have a1 := r.sta1
  have a2 := r.sta2
  have a3 := r.sto1
  have a4 := r.sto2
  have a5 := r.ste1
  have a6 := r.ste2
  have hx : (a == b) = false := by simp; omega
  have HT := Hid.intro' (SM.trav_in (s := s) h1 (show 0 ≤ b by omega) (show a < s.fl by omega) h2 (show a ≠ b by omega))
  have HD := Hid.intro' (show SM.dist a b = b - a by unfold SM.dist; rw [if_pos hlt])
  have R := Hid.intro' r
  clear n0 r
  go_enter Try.func40, Try.ntmps40
  go_wp2
  go_loop [1, 7] (fun t u => ∃ x m : Int, a ≤ x ∧ x ≤ b ∧ 0 ≤ m ∧ m ≤ 63000 ∧ t = .int .i64 x ∧ u = .int .i64 (s.sta + s.sto + m) ∧ Hid (m = s.ste * (x - a))) (fun t _ => (b - intOf t).toNat)
  case atStart => exact ⟨a, 0, by omega, by omega, by omega, by omega, rfl, by go_num, Hid.intro' (by simp)⟩
  case round =>
    obtain ⟨x, m, hx1, hx2, hm1, hm2, rfl, rfl, HM⟩ := hrel
    by_cases hl : x < b
    · have HM2 := Hid.intro' (show m + s.ste = s.ste * (x + 1 - a) by rw [SM.step_one, ← HM.out])
      have hb := SM.step_bd R.out (d := x + 1 - a) (by omega) (by omega)
      rw [← HM2.out] at hb
      obtain ⟨hb1, hb2⟩ := hb
      go_wp2
      go_round
      case rel => exact ⟨x + 1, m + s.ste, by omega, by omega, by omega, by omega, by go_num, by go_num, HM2⟩
      case measure => simp [intOf]; omega
    · obtain rfl : x = b := by omega
      go_wp2
      go_loop [1, 7] (fun t u => t = .int .i64 x ∧ u = .int .i64 (s.sta + s.sto + m)) (fun _ _ => 0)
      case atStart => exact ⟨rfl, rfl⟩
      case round =>
        obtain ⟨rfl, rfl⟩ := hrel
        go_wp2
        go_ret
        exact ⟨ret_int (by rw [HT.out, HD.out, ← HM.out]; omega), HB.out⟩
set_option maxHeartbeats 1000000 in
theorem rtravel_down (s : St) (r : SM.Rt s) (a b : Int) (w : World) (h2 : a < s.fl) (h1 : 0 ≤ b) (hlt : b < a) :
    Calls Try.prog 40 #[.agg (sv s).toArray, .int .i64 a, .int .i64 b] w fun e w' => e = .returned (.int .i64 (SM.trav s a b)) ∧ Below w.heap.size w w' := by
  have n0 := SB.new w s
  have hc0 := n0.c0
  have hc2 := n0.c2
  have hc3 := n0.c3
  have hc4 := n0.c4
  have HB : Hid (Below w.heap.size w (w.alloc (.cells (sv s).toArray 23))) := Hid.intro' ((Below.refl _ w).alloc (Nat.le_refl _) _)
  have f1 := r.fl2
  have a1 := r.sta1
  have a2 := r.sta2
  have a3 := r.sto1
  have a4 := r.sto2
  have a5 := r.ste1
  have a6 := r.ste2
  have hx : (a == b) = false := by simp; omega
  have HT := Hid.intro' (SM.trav_in (s := s) (show 0 ≤ a by omega) h1 h2 (show b < s.fl by omega) (show a ≠ b by omega))
  have HD := Hid.intro' (show SM.dist a b = a - b by unfold SM.dist; rw [if_neg (by omega)])
  have R := Hid.intro' r
  clear n0 r
  go_enter Try.func40, Try.ntmps40
  go_wp2
  go_loop [1, 7] (fun t u => t = .int .i64 a ∧ u = .int .i64 (s.sta + s.sto)) (fun _ _ => 0)
  case atStart => exact ⟨rfl, rfl⟩
  case round =>
    obtain ⟨rfl, rfl⟩ := hrel
    go_wp2
    go_loop [1, 7] (fun t u => ∃ x m : Int, b ≤ x ∧ x ≤ a ∧ 0 ≤ m ∧ m ≤ 63000 ∧ t = .int .i64 x ∧ u = .int .i64 (s.sta + s.sto + m) ∧ Hid (m = s.ste * (a - x))) (fun t _ => (intOf t - b).toNat)
    case atStart => exact ⟨a, 0, by omega, by omega, by omega, by omega, rfl, by go_num, Hid.intro' (by simp)⟩
    case round =>
      obtain ⟨x, m, hx1, hx2, hm1, hm2, rfl, rfl, HM⟩ := hrel
      by_cases hl : b < x
      · have HM2 := Hid.intro' (show m + s.ste = s.ste * (a - (x - 1)) by rw [SM.step_less, ← HM.out])
        have hb := SM.step_bd R.out (d := a - (x - 1)) (by omega) (by omega)
        rw [← HM2.out] at hb
        obtain ⟨hb1, hb2⟩ := hb
        go_wp2
        go_round
        case rel => exact ⟨x - 1, m + s.ste, by omega, by omega, by omega, by omega, by go_num, by go_num, HM2⟩
        case measure => simp [intOf]; omega
      · obtain rfl : x = b := by omega
        go_wp2
        go_ret
        exact ⟨ret_int (by rw [HT.out, HD.out, ← HM.out]; omega), HB.out⟩
theorem rtravel_any (s : St) (r : SM.Rt s) (a b : Int) (w : World) :
    Calls Try.prog 40 #[.agg (sv s).toArray, .int .i64 a, .int .i64 b] w fun e w' => e = .returned (.int .i64 (SM.trav s a b)) ∧ Below w.heap.size w w' := by
  by_cases hout : a < 0 ∨ b < 0 ∨ s.fl ≤ a ∨ s.fl ≤ b ∨ a = b
  · exact rtravel_out s a b w hout
  · have hne : ¬ a = b := by omega
    rcases Int.lt_or_lt_of_ne hne with hlt | hlt
    · exact rtravel_up s r a b w (by omega) (by omega) hlt
    · exact rtravel_down s r a b w (by omega) (by omega) hlt

end Go.Proofs.Ytkcppidmbojglag

/-
  A REGION THAT DRAWS ITS ORDER, in three parts: its head reads and calls (the callees may make memory, and leave all that was there); then new variables are made; then they are stored into.
  The making of a variable waits for nothing: it may come up between any two of the head's operations, so that its block's number hangs on the order. Here: ONE walk of the head, in lexical order, serves every order; the new variables' blocks are letters.
  No program is named here.
-/
namespace Go.Proofs.Ytkcppidmbojglag
open Go.RowKit

section
variable {P : Program} {ops : Array Oper} {md : Region.Mode} {W0 : World}

/-- in this state, in every world that has grown out of W0, the operation leaves v, and a world that has grown out of the one that it got -/
def Calm (P : Program) (ops : Array Oper) (W0 : World) (o : Oper) (v : Value) (a : Act) : Prop :=
  (Region.wanted o (yielded ops a.tmps) = true ∧ ∀ w, Below W0.heap.size W0 w → o.quietAt P a (fun w2 => Below w.heap.size w w2) w v) ∨
  (Region.wanted o (yielded ops a.tmps) = false ∧ v = undef)
theorem Calm.same {o : Oper} {v : Value} {a a' : Act} (h : Calm P ops W0 o v a) (he : execOp a'.eval o = execOp a.eval o) (hw : Region.wanted o (yielded ops a'.tmps) = Region.wanted o (yielded ops a.tmps)) : Calm P ops W0 o v a' := by
  unfold Calm Oper.quietAt at *
  rw [he, hw]
  exact h

/-- one operation of the head -/
def Oper.calm (P : Program) (W0 : World) (o : Oper) (a : Act) (K : Act → Prop) : Prop :=
  ∃ v, (∀ w, Below W0.heap.size W0 w → o.quietAt P a (fun w2 => Below w.heap.size w w2) w v) ∧ K (a.put o.dst v)
/-- the walk of the head, in lexical order -/
def wpCalm (P : Program) (ops : Array Oper) (W0 : World) (Q : Act → Prop) : List Oper → Act → Prop
  | [], a => Q a
  | o :: rest, a => if Region.wanted o (yielded ops a.tmps) then Oper.calm P W0 o a (wpCalm P ops W0 Q rest) else wpCalm P ops W0 Q rest (a.put o.dst undef)
theorem wpCalm_nil {Q : Act → Prop} {a : Act} (h : Q a) : wpCalm P ops W0 Q [] a := h
theorem wpCalm_mono {Q Q' : Act → Prop} (hQ : ∀ a, Q a → Q' a) : ∀ (l : List Oper) (a : Act), wpCalm P ops W0 Q l a → wpCalm P ops W0 Q' l a
  | [], a, h => hQ a h
  | o :: l, a, h => by
    unfold wpCalm at *
    split
    · rename_i hw
      rw [if_pos hw] at h
      obtain ⟨v, h1, h2⟩ := h
      exact ⟨v, h1, wpCalm_mono hQ l _ h2⟩
    · rename_i hw
      rw [if_neg hw] at h
      exact wpCalm_mono hQ l _ h
theorem wpCalm_cons {Q : Act → Prop} {a : Act} {o : Oper} {rest : List Oper} (h : wpCalm P ops W0 Q (o :: rest) a) : ∃ v, Calm P ops W0 o v a ∧ wpCalm P ops W0 Q rest (a.put o.dst v) := by
  unfold wpCalm at h
  by_cases hw : Region.wanted o (yielded ops a.tmps) = true
  · rw [if_pos hw] at h
    obtain ⟨v, h1, h2⟩ := h
    exact ⟨v, .inl ⟨hw, h1⟩, h2⟩
  · rw [if_neg hw] at h
    exact ⟨undef, .inr ⟨by simpa using hw, rfl⟩, h⟩

/-! ### the orders of the head -/
/-- what may come up next, of the first n -/
def rdy (md : Region.Mode) (ops : Array Oper) (n : Nat) (done : Nat → Bool) (i : Nat) : Prop :=
  i < n ∧ done i = false ∧ ∃ o, ops[i]? = some o ∧ ∀ e ∈ o.after, Region.binds md e = true → done e.on = true
/-- one more is done -/
def more (done : Nat → Bool) (i : Nat) : Nat → Bool := fun j => if j = i then true else done j
theorem more_ne {done : Nat → Bool} {i j : Nat} (h : j ≠ i) : more done i j = done j := if_neg h
theorem more_true {done : Nat → Bool} {i j : Nat} (h : done j = true) : more done i j = true := by unfold more; split <;> first | rfl | exact h
theorem more_comm (done : Nat → Bool) (i j : Nat) : more (more done i) j = more (more done j) i := by
  funext k; unfold more; split <;> split <;> rfl
theorem rdy_more {n : Nat} {done : Nat → Bool} {i j : Nat} (h : rdy md ops n done j) (hne : j ≠ i) : rdy md ops n (more done i) j := by
  obtain ⟨h1, h2, o, ho, hall⟩ := h
  exact ⟨h1, by rw [more_ne hne]; exact h2, o, ho, fun e he hb => more_true (hall e he hb)⟩

/-- whatever order the head takes -/
def AnyF (P : Program) (md : Region.Mode) (ops : Array Oper) (W0 : World) (n : Nat) (Q : Act → Prop) : Nat → (Nat → Bool) → Act → Prop
  | 0, done, a => (∀ i, i < n → done i = true) ∧ Q a
  | f + 1, done, a => (∃ i, rdy md ops n done i) ∧ ∀ i o, ops[i]? = some o → rdy md ops n done i → ∃ v, Calm P ops W0 o v a ∧ AnyF P md ops W0 n Q f (more done i) (a.put o.dst v)

theorem anyF_first {n : Nat} {Q : Act → Prop} {i : Nat} {oi : Oper} {v : Value} (hi : ops[i]? = some oi) (hsel : ∀ (j : Nat) (o : Oper) cs b, ops[j]? = some o → o.op ≠ .select cs b) :
    ∀ (f : Nat) (done : Nat → Bool) (a : Act),
      (∀ j oj, ops[j]? = some oj → j < n → j ≠ i → done j = false → (∀ e ∈ oj.after, Region.binds md e = true → e.on ≠ i) → oi.apart ops oj = true) →
      rdy md ops n done i → Calm P ops W0 oi v a → AnyF P md ops W0 n Q f (more done i) (a.put oi.dst v) → AnyF P md ops W0 n Q (f + 1) done a := by
  intro f
  induction f with
  | zero =>
    intro done a _ hr hy H
    refine ⟨⟨i, hr⟩, fun j oj hj hrj => ?_⟩
    by_cases hji : j = i
    · subst hji
      obtain rfl : oi = oj := Option.some.inj (hi.symm.trans hj)
      exact ⟨v, hy, H⟩
    · have h1 := H.1 j hrj.1
      rw [more_ne hji, hrj.2.1] at h1
      cases h1
  | succ f ih =>
    intro done a hfree hr hy H
    refine ⟨⟨i, hr⟩, fun j oj hj hrj => ?_⟩
    by_cases hji : j = i
    · subst hji
      obtain rfl : oi = oj := Option.some.inj (hi.symm.trans hj)
      exact ⟨v, hy, H⟩
    · obtain ⟨u, hu, hn⟩ := H.2 j oj hj (rdy_more hrj hji)
      have hno : ∀ e ∈ oj.after, Region.binds md e = true → e.on ≠ i := fun e he hb heq => by
        obtain ⟨_, _, o', ho', hall⟩ := hrj
        obtain rfl : o' = oj := Option.some.inj (ho'.symm.trans hj)
        have h1 := hall e he hb
        rw [heq, hr.2.1] at h1
        cases h1
      obtain ⟨h1, h2, h3⟩ := Oper.apart_spec (hfree j oj hj hrj.1 hji hrj.2.1 hno)
      have k1 : Calm P ops W0 oj u a := hu.same (execOp_put oj (fun cs b => hsel j oj cs b hj) a oi.dst v h1).symm (wanted_put oj a oi.dst v h1).symm
      have k2 : Calm P ops W0 oi v (a.put oj.dst u) := hy.same (execOp_put oi (fun cs b => hsel i oi cs b hi) a oj.dst u h3) (wanted_put oi a oj.dst u h3)
      refine ⟨u, k1, ih (more done j) (a.put oj.dst u) (fun k ok hk hkn hki hun hno' => hfree k ok hk hkn hki ?_ hno') (rdy_more hr (Ne.symm hji)) k2 ?_⟩
      · by_cases hkj : k = j
        · subst hkj; exact hrj.2.1
        · rwa [more_ne hkj] at hun
      · rw [more_comm, ← Act.put_comm a v u h2]
        exact hn

/-- the head's lexical order is one of its orders, and all that don't wait for one another are apart -/
def headB (md : Region.Mode) (ops : Array Oper) (n : Nat) : Bool :=
  (List.range n).all fun i => match ops[i]? with
    | none => false
    | some oi => (oi.after.all fun e => !Region.binds md e || decide (e.on < i)) && (List.range n).all fun j => decide (j ≤ i) || Region.waitsFor md ops j i || match ops[j]? with
      | none => true
      | some oj => oi.apart ops oj
theorem headB_on {n i : Nat} {oi : Oper} (h : headB md ops n = true) (hi : i < n) (ho : ops[i]? = some oi) : ∀ e ∈ oi.after, Region.binds md e = true → e.on < i := fun e he hb => by
  have h1 := List.all_eq_true.1 h i (List.mem_range.2 hi)
  simp only [ho, Bool.and_eq_true] at h1
  have h2 := Array.all_eq_true_iff_forall_mem.1 h1.1 e he
  simpa [hb] using h2
theorem headB_apart {n i j : Nat} {oi oj : Oper} (h : headB md ops n = true) (hi : i < n) (ho : ops[i]? = some oi) (hj : j < n) (hoj : ops[j]? = some oj) (hij : i < j)
    (hno : ∀ e ∈ oj.after, Region.binds md e = true → e.on ≠ i) : oi.apart ops oj = true := by
  have h1 := List.all_eq_true.1 h i (List.mem_range.2 hi)
  simp only [ho, Bool.and_eq_true] at h1
  have h2 := List.all_eq_true.1 h1.2 j (List.mem_range.2 hj)
  simp only [hoj, Bool.or_eq_true, decide_eq_true_eq] at h2
  rcases h2 with (h2 | h2) | h2
  · omega
  · obtain ⟨o', ho', e, he, hb, hon⟩ := Region.waitsFor_spec h2
    obtain rfl : o' = oj := Option.some.inj (ho'.symm.trans hoj)
    exact absurd hon (hno e he hb)
  · exact h2

theorem anyF_lex {n : Nat} {Q : Act → Prop} (hsel : Region.noSelect ops = true) (hB : headB md ops n = true) : ∀ (l : List Oper) (k : Nat) (a : Act), (∀ j, j < l.length → l[j]? = ops[k + j]?) → k + l.length = n →
    wpCalm P ops W0 Q l a → AnyF P md ops W0 n Q l.length (fun j => decide (j < k)) a
  | [], k, a, _, hk, h => ⟨fun i hi => decide_eq_true (by simp only [List.length_nil] at hk; omega), h⟩
  | o :: l, k, a, hl, hk, h => by
    have h0 : ops[k]? = some o := by simpa using (hl 0 (by simp)).symm
    have hkn : k < n := by simp only [List.length_cons] at hk; omega
    obtain ⟨v, hy, hK⟩ := wpCalm_cons h
    have IH := anyF_lex (Q := Q) hsel hB l (k + 1) (a.put o.dst v) (fun j hj => by have := hl (j + 1) (by simp; omega); simpa [Nat.add_assoc, Nat.add_comm 1 j] using this) (by simp only [List.length_cons] at hk; omega) hK
    have e : (fun j => decide (j < k + 1)) = more (fun j => decide (j < k)) k := by
      funext j
      unfold more
      split
      · rename_i hjk; subst hjk; simp
      · by_cases hjk : j < k
        · simp [hjk]; omega
        · simp [hjk]; omega
    rw [e] at IH
    refine anyF_first h0 (Region.noSelect_spec hsel) l.length _ a (fun j oj hj hjn hne hun hno => ?_) ⟨hkn, by simp, o, h0, fun e he hb => decide_eq_true (headB_on hB hkn h0 e he hb)⟩ hy IH
    have : ¬ j < k := of_decide_eq_false hun
    exact headB_apart hB hkn h0 hjn hj (by omega) hno

/-! ### the new variables -/
/-- where operation number j puts its value -/
def dstOf (ops : Array Oper) (j : Nat) : Option Tmp := (ops[j]?).bind (·.dst)
/-- the new variables' pointers, over a frame -/
def ov (ops : Array Oper) : List (Nat × Nat) → Act → Act
  | [], a => a
  | p :: σ, a => (ov ops σ a).put (dstOf ops p.1) (.pointer (some ⟨p.2, 0, none⟩))
/-- an operation that makes a variable -/
structure IsNew (P : Program) (ops : Array Oper) (j : Nat) (o : Oper) (Z : Obj) : Prop where
  here : ops[j]? = some o
  after : o.after = #[]
  wants : ∀ tmps, Region.wanted o (yielded ops tmps) = true
  runs : ∀ (a : Act) w, (execOp a.eval o).run P w = .ok (.value (.pointer (some ⟨w.heap.size, 0, none⟩))) (w.alloc Z)
/-- the new variables are apart from the head -/
def newB (ops : Array Oper) (n m : Nat) : Bool :=
  (List.range m).all fun j => decide (j < n) || match ops[j]? with
    | none => false
    | some oj => (List.range n).all fun i => match ops[i]? with
      | none => false
      | some oi => oj.apart ops oi
theorem newB_spec {n m j i : Nat} {oi : Oper} (h : newB ops n m = true) (h1 : n ≤ j) (h2 : j < m) (hi : i < n) (ho : ops[i]? = some oi) :
    (∀ d, dstOf ops j = some d → d ∉ oi.looksAt ops) ∧ (∀ d, dstOf ops j = some d → oi.dst ≠ some d) := by
  have k1 := List.all_eq_true.1 h j (List.mem_range.2 h2)
  simp only [Bool.or_eq_true, decide_eq_true_eq] at k1
  rcases k1 with k1 | k1
  · omega
  · cases hj : ops[j]? with
    | none => simp [hj] at k1
    | some oj =>
      simp only [hj] at k1
      have k2 := List.all_eq_true.1 k1 i (List.mem_range.2 hi)
      simp only [ho] at k2
      obtain ⟨a1, a2, _⟩ := Oper.apart_spec k2
      have e : dstOf ops j = oj.dst := by unfold dstOf; rw [hj]; rfl
      rw [e]
      exact ⟨a1, a2⟩

theorem ov_exec {oi : Oper} (hs : ∀ cs b, oi.op ≠ .select cs b) (a : Act) : ∀ σ : List (Nat × Nat), (∀ p ∈ σ, ∀ d, dstOf ops p.1 = some d → d ∉ oi.looksAt ops) → execOp (ov ops σ a).eval oi = execOp a.eval oi
  | [], _ => rfl
  | p :: σ, h => (execOp_put oi hs _ _ _ (h p (List.mem_cons_self ..))).trans (ov_exec hs a σ fun q hq => h q (List.mem_cons_of_mem _ hq))
theorem ov_wanted {oi : Oper} (a : Act) : ∀ σ : List (Nat × Nat), (∀ p ∈ σ, ∀ d, dstOf ops p.1 = some d → d ∉ oi.looksAt ops) → Region.wanted oi (yielded ops (ov ops σ a).tmps) = Region.wanted oi (yielded ops a.tmps)
  | [], _ => rfl
  | p :: σ, h => (wanted_put oi _ _ _ (h p (List.mem_cons_self ..))).trans (ov_wanted a σ fun q hq => h q (List.mem_cons_of_mem _ hq))
theorem ov_put {x : Option Tmp} (a : Act) (v : Value) : ∀ σ : List (Nat × Nat), (∀ p ∈ σ, ∀ d, dstOf ops p.1 = some d → x ≠ some d) → (ov ops σ a).put x v = ov ops σ (a.put x v)
  | [], _ => rfl
  | p :: σ, h => by
    show ((ov ops σ a).put _ _).put x v = (ov ops σ (a.put x v)).put _ _
    rw [Act.put_comm _ _ _ (h p (List.mem_cons_self ..)), ov_put a v σ fun q hq => h q (List.mem_cons_of_mem _ hq)]

theorem wp_of_calm {o : Oper} {a : Act} {w : World} {v : Value} {K : Act → World → Prop} {Q : Exit → Act → World → Prop} (h : o.quietAt P a (fun w2 => Below w.heap.size w w2) w v)
    (hk : ∀ w2, Below w.heap.size w w2 → K (a.put o.dst v) w2) : o.wp P a w K Q := by
  unfold Oper.quietAt at h
  unfold Oper.wp
  generalize (execOp a.eval o).run P w = r at *
  cases r with
  | ok x w' =>
    cases x <;> simp only [Oper.quietUpon] at h <;> simp only [Oper.upon]
    case value u => obtain ⟨rfl, rfl⟩ := h; exact hk _ (Below.refl _ _)
    case skip => obtain ⟨rfl, rfl⟩ := h; exact hk _ (Below.refl _ _)
    case enter f args =>
      obtain ⟨rfl, hc⟩ := h
      exact hc.mono fun e w2 hh => by obtain ⟨rfl, hb⟩ := hh; exact hk w2 hb
  | halt x w' => simp only [Oper.quietUpon] at h

/-! ### how many are left -/
def left (ls : Array Bool) : Nat → Nat
  | 0 => 0
  | m + 1 => left ls m + if ls.getD m false = true then 0 else 1
theorem left_none {ls : Array Bool} : ∀ {m : Nat}, left ls m = 0 → ∀ i, i < m → ls.getD i false = true
  | m + 1, h, i, hi => by
    unfold left at h
    by_cases him : i = m
    · subst him
      by_cases hh : ls.getD i false = true
      · exact hh
      · rw [if_neg hh] at h; omega
    · exact left_none (m := m) (by omega) i (by omega)
theorem left_some {ls : Array Bool} : ∀ {m : Nat}, left ls m ≠ 0 → ∃ i, i < m ∧ ls.getD i false = false
  | 0, h => absurd rfl h
  | m + 1, h => by
    by_cases hh : ls.getD m false = true
    · unfold left at h
      rw [if_pos hh] at h
      obtain ⟨i, h1, h2⟩ := left_some (m := m) (by omega)
      exact ⟨i, by omega, h2⟩
    · exact ⟨m, by omega, by simpa using hh⟩
theorem left_same {ls : Array Bool} {i : Nat} : ∀ {m : Nat}, m ≤ i → left (ls.setIfInBounds i true) m = left ls m
  | 0, _ => rfl
  | m + 1, h => by unfold left; rw [left_same (m := m) (by omega), getD_set_ne false (by omega)]
theorem left_set {ls : Array Bool} {i : Nat} (hs : i < ls.size) (hu : ls.getD i false = false) : ∀ {m : Nat}, i < m → left (ls.setIfInBounds i true) m + 1 = left ls m
  | m + 1, h => by
    unfold left
    by_cases him : i = m
    · subst him
      rw [left_same (Nat.le_refl _), if_pos (by simp [hs]), if_neg (by rw [hu]; simp)]
    · have := left_set hs hu (m := m) (by omega)
      rw [getD_set_ne false him]
      omega

/-- the first m are listed, no other -/
def upto (ops : Array Oper) (m : Nat) : Array Bool := ((List.range ops.size).map fun i => decide (i < m)).toArray
theorem getD_set_self {ls : Array Bool} {i : Nat} (h : i < ls.size) (d : Bool) : (ls.setIfInBounds i true).getD i d = true := by simp [h]
theorem upto_of {ls : Array Bool} {m : Nat} (hs : ls.size = ops.size) (h1 : ∀ i, i < m → ls.getD i false = true) (h2 : ∀ i, m ≤ i → ls.getD i false = false) : ls = upto ops m := by
  apply Array.ext
  · simp [upto, hs]
  · intro i hi hi'
    have e : ls.getD i false = ls[i] := by simp [hi]
    rw [← e]
    by_cases hm : i < m
    · rw [h1 i hm]; simp [upto, hm]
    · rw [h2 i (by omega)]; simp [upto, hm]

/-- all that a state is held to -/
structure Sok (ops : Array Oper) (W0 : World) (Z : Nat → Obj) (n m : Nat) (ls : Array Bool) (σ : List (Nat × Nat)) (w : World) : Prop where
  size : ls.size = ops.size
  tail : ∀ t, m ≤ t → ls.getD t false = false
  some : ∀ p ∈ σ, n ≤ p.1 ∧ p.1 < m ∧ ls.getD p.1 false = true ∧ W0.heap.size ≤ p.2 ∧ p.2 < w.heap.size ∧ w.heap[p.2]? = some (Z p.1)
  all : ∀ j, n ≤ j → j < m → ls.getD j false = true → ∃ D, (j, D) ∈ σ
  keys : (σ.map (·.1)).Nodup
  apart : (σ.map (·.2)).Nodup
  bel : Below W0.heap.size W0 w
theorem Sok.grow {Z : Nat → Obj} {n m : Nat} {ls : Array Bool} {σ : List (Nat × Nat)} {w w2 : World} (h : Sok ops W0 Z n m ls σ w) (hb : Below w.heap.size w w2) : Sok ops W0 Z n m ls σ w2 :=
  ⟨h.size, h.tail, fun p hp => by
    obtain ⟨a1, a2, a3, a4, a5, a6⟩ := h.some p hp
    exact ⟨a1, a2, a3, a4, Nat.lt_of_lt_of_le a5 hb.size, (hb.block p.2 a5).trans a6⟩, h.all, h.keys, h.apart, below_class h.bel hb⟩
theorem Sok.head {Z : Nat → Obj} {n m : Nat} {ls : Array Bool} {σ : List (Nat × Nat)} {w : World} (h : Sok ops W0 Z n m ls σ w) {i : Nat} (hi : i < n) (hnm : n ≤ m) : Sok ops W0 Z n m (ls.setIfInBounds i true) σ w :=
  ⟨by simp [h.size], fun t ht => by rw [getD_set_ne false (by omega)]; exact h.tail t ht, fun p hp => by
    obtain ⟨a1, a2, a3, a4, a5, a6⟩ := h.some p hp
    exact ⟨a1, a2, getD_set_true a3, a4, a5, a6⟩, fun j h1 h2 h3 => h.all j h1 h2 (by rwa [getD_set_ne false (by omega)] at h3), h.keys, h.apart, h.bel⟩
theorem Sok.made {Z : Nat → Obj} {n m : Nat} {ls : Array Bool} {σ : List (Nat × Nat)} {w : World} (h : Sok ops W0 Z n m ls σ w) {i : Nat} (h1 : n ≤ i) (h2 : i < m) (hs : i < ls.size) (hu : ls.getD i false = false) :
    Sok ops W0 Z n m (ls.setIfInBounds i true) ((i, w.heap.size) :: σ) (w.alloc (Z i)) := by
  refine ⟨by simp [h.size], fun t ht => by rw [getD_set_ne false (by omega)]; exact h.tail t ht, fun p hp => ?_, fun j j1 j2 j3 => ?_, ?_, ?_, h.bel.alloc h.bel.size _⟩
  · rcases List.mem_cons.1 hp with rfl | hp
    · exact ⟨h1, h2, getD_set_self hs false, h.bel.size, by simp, World.alloc_heap_new w _⟩
    · obtain ⟨a1, a2, a3, a4, a5, a6⟩ := h.some p hp
      exact ⟨a1, a2, getD_set_true a3, a4, by simp; omega, (Below.heap_alloc w _ p.2 a5).trans a6⟩
  · by_cases hji : i = j
    · subst hji; exact ⟨_, List.mem_cons_self ..⟩
    · rw [getD_set_ne false hji] at j3
      obtain ⟨D, hD⟩ := h.all j j1 j2 j3
      exact ⟨D, List.mem_cons_of_mem _ hD⟩
  · simp only [List.map_cons, List.nodup_cons]
    refine ⟨fun hm => ?_, h.keys⟩
    obtain ⟨p, hp, he⟩ := List.mem_map.1 hm
    have := (h.some p hp).2.2.1
    rw [he, hu] at this
    cases this
  · simp only [List.map_cons, List.nodup_cons]
    refine ⟨fun hm => ?_, h.apart⟩
    obtain ⟨p, hp, he⟩ := List.mem_map.1 hm
    have := (h.some p hp).2.2.2.2.1
    omega

/-- whatever order is drawn -/
theorem any_new {Q : Act → Prop} {Q' : Exit → Act → World → Prop} {Z : Nat → Obj} {n m g : Nat} (hsel : Region.noSelect ops = true) (hB : headB md ops n = true) (hN : newB ops n m = true) (hnm : n ≤ m) (hmo : m < ops.size)
    (hnew : ∀ j, n ≤ j → j < m → ∃ o, IsNew P ops j o (Z j)) (hsink : Region.sinkB md ops m = true) (hchain : Region.chainB md ops m = true)
    (hend : ∀ a σ w, Sok ops W0 Z n m (upto ops m) σ w → Q a → wpAny P md ops Q' g (upto ops m) (ov ops σ a) w) :
    ∀ (c : Nat) (ls : Array Bool) (done : Nat → Bool) (a : Act) (σ : List (Nat × Nat)) (w : World) (f : Nat), left ls m = c → (∀ i, i < n → ls.getD i false = done i) → HeadInv md ops m ls → Sok ops W0 Z n m ls σ w →
      AnyF P md ops W0 n Q f done a → wpAny P md ops Q' (c + g) ls (ov ops σ a) w := by
  intro c
  induction c with
  | zero =>
    intro ls done a σ w f hc hd _ hs hF
    have hall := left_none hc
    obtain rfl := upto_of hs.size hall hs.tail
    cases f with
    | zero => rw [Nat.zero_add]; exact hend a σ w hs hF.2
    | succ f =>
      obtain ⟨i, hi, hf, _⟩ := hF.1
      rw [← hd i hi, hall i (by omega)] at hf
      cases hf
  | succ c ih =>
    intro ls done a σ w f hc hd inv hs hF
    obtain ⟨i0, hi0, hu0⟩ := left_some (ls := ls) (m := m) (by omega)
    have hsz0 : i0 < ls.size := by rw [hs.size]; omega
    have notail : ∀ i ∈ Region.ready md ops ls, i < m := fun i hi => by
      rcases Nat.lt_or_ge i m with h | h
      · exact h
      · exact absurd hi (tail_waits hsink hchain hmo inv _ i0 rfl hi0 (getD_in hsz0 hu0) i h)
    rw [show c + 1 + g = (c + g) + 1 by omega]
    refine ⟨fun hnil => ?_, fun i hi => ?_⟩
    · exfalso
      rcases Nat.lt_or_ge i0 n with h | h
      · cases f with
        | zero =>
          have := hF.1 i0 h
          rw [← hd i0 h, hu0] at this
          cases this
        | succ f =>
          obtain ⟨i, hi, hf, o, ho, hall⟩ := hF.1
          have : i ∈ Region.ready md ops ls := mem_ready.2 ⟨getD_in (by rw [hs.size]; exact (Array.getElem?_eq_some_iff.1 ho).1) (by rw [hd i hi]; exact hf), o, ho, fun e he hb => by
            rw [hd e.on (by have := headB_on hB hi ho e he hb; omega)]; exact hall e he hb⟩
          rw [hnil] at this
          cases this
      · obtain ⟨o, ho⟩ := hnew i0 h hi0
        have : i0 ∈ Region.ready md ops ls := mem_ready.2 ⟨getD_in hsz0 hu0, o, ho.here, fun e he => by rw [ho.after] at he; simp at he⟩
        rw [hnil] at this
        cases this
    · have him := notail i hi
      obtain ⟨hun, o, ho, hall⟩ := mem_ready.1 hi
      have hu := getD_both hun
      have hsz : i < ls.size := by rw [hs.size]; omega
      have hc' : left (ls.setIfInBounds i true) m = c := by have := left_set hsz hu him; omega
      rcases Nat.lt_or_ge i n with hin | hin
      · have hr : rdy md ops n done i := ⟨hin, by rw [← hd i hin]; exact hu, o, ho, fun e he hb => by
          rw [← hd e.on (by have := headB_on hB hin ho e he hb; omega)]; exact hall e he hb⟩
        cases f with
        | zero =>
          have := hF.1 i hin
          rw [hr.2.1] at this
          cases this
        | succ f =>
          obtain ⟨v, hy, hn⟩ := hF.2 i o ho hr
          have hap : ∀ p ∈ σ, (∀ d, dstOf ops p.1 = some d → d ∉ o.looksAt ops) ∧ (∀ d, dstOf ops p.1 = some d → o.dst ≠ some d) := fun p hp => newB_spec hN (hs.some p hp).1 (hs.some p hp).2.1 hin ho
          have hd' : ∀ k, k < n → (ls.setIfInBounds i true).getD k false = more done i k := fun k hk => by
            by_cases hki : k = i
            · subst hki; rw [getD_set_self hsz]; unfold more; rw [if_pos rfl]
            · rw [getD_set_ne false (Ne.symm hki), more_ne hki]; exact hd k hk
          have go : ∀ w2, Below w.heap.size w w2 → wpAny P md ops Q' (c + g) (ls.setIfInBounds i true) ((ov ops σ a).put o.dst v) w2 := fun w2 hb => by
            rw [ov_put a v σ fun p hp => (hap p hp).2]
            exact ih _ _ _ σ w2 f hc' hd' (inv.set hi him) ((hs.head hin hnm).grow hb) hn
          unfold wpOp
          rw [ho]
          simp only [ov_wanted a σ fun p hp => (hap p hp).1]
          rcases hy with ⟨hw, hq⟩ | ⟨hw, rfl⟩
          · rw [if_pos hw]
            refine .inl (wp_of_calm (v := v) ?_ go)
            have := hq w hs.bel
            unfold Oper.quietAt at *
            rwa [ov_exec (Region.noSelect_spec hsel i o · · ho) a σ fun p hp => (hap p hp).1]
          · rw [if_neg (by rw [hw]; simp)]
            exact go w (Below.refl _ _)
      · obtain ⟨o', ho'⟩ := hnew i hin him
        obtain rfl : o' = o := Option.some.inj (ho'.here.symm.trans ho)
        unfold wpOp
        rw [ho]
        simp only
        rw [if_pos (ho'.wants _)]
        refine .inl ?_
        unfold Oper.wp
        rw [ho'.runs]
        simp only [Oper.upon]
        have e : dstOf ops i = o'.dst := by unfold dstOf; rw [ho]; rfl
        have := ih (ls.setIfInBounds i true) done a ((i, w.heap.size) :: σ) (w.alloc (Z i)) f hc' (fun k hk => by rw [getD_set_ne false (by omega)]; exact hd k hk) (inv.set hi him) (hs.made hin him hsz hu) hF
        unfold ov at this
        rw [e] at this
        exact this

/-- the region's shape, as one Bool -/
def shapeB (md : Region.Mode) (ops : Array Oper) (n m : Nat) : Bool :=
  Region.noSelect ops && headB md ops n && newB ops n m && decide (n ≤ m) && decide (m < ops.size) && Region.sinkB md ops m && Region.chainB md ops m && Region.seqB md ops (ops.size - m) m (upto ops m)
end

theorem wp_region_new {P : Program} {id : Nat} {Q : Exit → Act → World → Prop} {a : Act} {w : World} {l : List Oper} (n m : Nat) (Z : Nat → Obj) (hm : P.follows .mixedOrders = true) (hB : shapeB .any l.toArray n m = true)
    (hnew : ∀ j, n ≤ j → j < m → ∃ o, IsNew P l.toArray j o (Z j))
    (h : wpCalm P l.toArray w.drew (fun a' => ∀ σ w', Sok l.toArray w.drew Z n m (upto l.toArray m) σ w' → wpList P l.toArray Q (l.drop m) (ov l.toArray σ a') w') (l.take n) a) :
    (Code.region id l.toArray true).wp P Q a w := by
  simp only [shapeB, Bool.and_eq_true, decide_eq_true_eq] at hB
  obtain ⟨⟨⟨⟨⟨⟨⟨hsel, hhead⟩, hnewB⟩, hnm⟩, hmo⟩, hsink⟩, hchain⟩, hseq⟩ := hB
  have hmo' : m < l.length := by simpa using hmo
  have htl : (l.take n).length = n := by simp; omega
  have hdl : (l.drop m).length = l.toArray.size - m := by simp
  have inv0 : HeadInv .any l.toArray m (Array.replicate l.toArray.size false) :=
    ⟨by simp, fun j oj _ hl => (by rw [getD_replicate_false] at hl; cases hl), fun t _ ht => getD_in (by simpa using ht) (getD_replicate_false _ _)⟩
  have H := anyF_lex (md := .any) (n := n) hsel hhead (l.take n) 0 a (fun j hj => by
    have hj' : j < n := by rw [htl] at hj; exact hj
    simp [hj']) (by simpa using htl) h
  rw [htl] at H
  have hl0 : left (Array.replicate l.toArray.size false) m = m := by
    have : ∀ k, left (Array.replicate l.toArray.size false) k = k := fun k => by
      induction k with
      | zero => rfl
      | succ k ih => unfold left; rw [ih, getD_replicate_false]; simp
    exact this m
  refine wp_region_any hm ?_
  have := any_new (md := .any) (W0 := w.drew) (Q' := Q) (g := l.toArray.size - m) hsel hhead hnewB hnm hmo hnew hsink hchain (fun a' σ w' hs hQ => by
    have := wpAny_of_seq (md := .any) (Q' := Q) (l.drop m) m (upto l.toArray m) (ov l.toArray σ a') w' (fun j => by simp [List.getElem?_drop]) (by rw [hdl]; exact hseq) (hQ σ w' hs)
    rwa [hdl] at this) m (Array.replicate l.toArray.size false) (fun j => decide (j < 0)) a [] w.drew n hl0 (fun i _ => by rw [getD_replicate_false]; simp) inv0
    ⟨by simp, fun t _ => getD_replicate_false _ _, fun p hp => (by cases hp), fun j _ _ hj => (by rw [getD_replicate_false] at hj; cases hj), List.nodup_nil, List.nodup_nil, Below.refl _ _⟩ H
  rw [show m + (l.toArray.size - m) = l.toArray.size by omega] at this
  exact this

theorem upto_get {ops : Array Oper} {m i : Nat} (h1 : i < m) (h2 : i < ops.size) : (upto ops m).getD i false = true := by
  simp [upto, List.getElem?_range h2, h1]
theorem shapeB_size {ops : Array Oper} {n m : Nat} (h : shapeB .any ops n m = true) : m ≤ ops.size := by
  simp only [shapeB, Bool.and_eq_true, decide_eq_true_eq] at h
  exact Nat.le_of_lt h.1.1.1.2

/-- one new variable -/
theorem wp_region_new1 {P : Program} {id : Nat} {Q : Exit → Act → World → Prop} {a : Act} {w : World} {l : List Oper} (n : Nat) (d : Tmp) (Z : Obj) (hm : P.follows .mixedOrders = true) (hB : shapeB .any l.toArray n (n + 1) = true)
    (hd : dstOf l.toArray n = some d) (hnew : ∃ o, IsNew P l.toArray n o Z)
    (h : wpCalm P l.toArray w.drew (fun a' => ∀ D w', Below w.drew.heap.size w.drew w' → w.heap.size ≤ D → w'.heap[D]? = some Z → wpList P l.toArray Q (l.drop (n + 1)) (a'.put (some d) (.pointer (some ⟨D, 0, none⟩))) w') (l.take n) a) :
    (Code.region id l.toArray true).wp P Q a w := by
  refine wp_region_new n (n + 1) (fun _ => Z) hm hB (fun j h1 h2 => ?_) ?_
  · obtain rfl : j = n := by omega
    exact hnew
  refine wpCalm_mono (fun a' ha σ w' hs => ?_) _ a h
  obtain ⟨D, hD⟩ := hs.all n (Nat.le_refl _) (by omega) (upto_get (by omega) (shapeB_size hB))
  match σ, hs, hD with
  | [p], hs, hD =>
    obtain rfl : (n, D) = p := by simpa using hD
    obtain ⟨_, _, _, b4, _, b6⟩ := hs.some _ (List.mem_cons_self ..)
    show wpList P l.toArray Q _ (a'.put (dstOf l.toArray n) _) w'
    rw [hd]
    exact ha D w' hs.bel b4 b6
  | p :: q :: r, hs, _ =>
    exfalso
    have hk := hs.keys
    have h1 := hs.some p (by simp)
    have h2 := hs.some q (by simp)
    simp only [List.map_cons, List.nodup_cons, List.mem_cons, not_or] at hk
    omega

/-- two new variables -/
theorem wp_region_new2 {P : Program} {id : Nat} {Q : Exit → Act → World → Prop} {a : Act} {w : World} {l : List Oper} (n : Nat) (d e : Tmp) (Z Z' : Obj) (hm : P.follows .mixedOrders = true) (hB : shapeB .any l.toArray n (n + 2) = true)
    (hnew : ∃ o, IsNew P l.toArray n o Z) (hnew' : ∃ o, IsNew P l.toArray (n + 1) o Z') (hd : dstOf l.toArray n = some d) (he : dstOf l.toArray (n + 1) = some e) (hde : d ≠ e)
    (h : wpCalm P l.toArray w.drew (fun a' => ∀ D E w', Below w.drew.heap.size w.drew w' → w.heap.size ≤ D → w.heap.size ≤ E → D ≠ E → w'.heap[D]? = some Z → w'.heap[E]? = some Z' →
      wpList P l.toArray Q (l.drop (n + 2)) ((a'.put (some d) (.pointer (some ⟨D, 0, none⟩))).put (some e) (.pointer (some ⟨E, 0, none⟩))) w') (l.take n) a) :
    (Code.region id l.toArray true).wp P Q a w := by
  refine wp_region_new n (n + 2) (fun j => if j = n then Z else Z') hm hB (fun j h1 h2 => ?_) ?_
  · by_cases hj : j = n
    · subst hj; rw [if_pos rfl]; exact hnew
    · obtain rfl : j = n + 1 := by omega
      rw [if_neg hj]; exact hnew'
  refine wpCalm_mono (fun a' ha σ w' hs => ?_) _ a h
  obtain ⟨D, hD⟩ := hs.all n (Nat.le_refl _) (by omega) (upto_get (by omega) (Nat.le_trans (by omega) (shapeB_size hB)))
  obtain ⟨E, hE⟩ := hs.all (n + 1) (by omega) (by omega) (upto_get (by omega) (shapeB_size hB))
  have sD := hs.some _ hD
  have sE := hs.some _ hE
  simp only [if_pos, show ¬ (n + 1 = n) by omega, if_false] at sD sE
  have go : D ≠ E → wpList P l.toArray Q (l.drop (n + 2)) ((a'.put (some d) (.pointer (some ⟨D, 0, none⟩))).put (some e) (.pointer (some ⟨E, 0, none⟩))) w' := fun hne => ha D E w' hs.bel sD.2.2.2.1 sE.2.2.2.1 hne sD.2.2.2.2.2 sE.2.2.2.2.2
  clear sD sE
  match σ, hs, hD, hE with
  | [p], _, hD, hE =>
    exfalso
    have e1 : (n, D) = p := by simpa using hD
    have e2 : (n + 1, E) = p := by simpa using hE
    rw [← e2] at e1
    have := congrArg Prod.fst e1
    simp at this
  | [p, q], hs, hD, hE =>
    have hap := hs.apart
    simp only [List.map_cons, List.map_nil, List.nodup_cons, List.mem_cons, List.not_mem_nil, or_false] at hap hD hE
    rcases hD with rfl | rfl
    · rcases hE with hE | rfl
      · exact absurd (congrArg Prod.fst hE) (by simp)
      · show wpList P l.toArray Q _ ((a'.put (dstOf l.toArray (n + 1)) _).put (dstOf l.toArray n) _) w'
        rw [hd, he, ← Act.put_comm a' _ _ (fun k hk h => hde (Option.some.inj (hk.trans h.symm)))]
        exact go hap.1
    · rcases hE with rfl | hE
      · show wpList P l.toArray Q _ ((a'.put (dstOf l.toArray n) _).put (dstOf l.toArray (n + 1)) _) w'
        rw [hd, he]
        exact go fun h => hap.1 h.symm
      · exact absurd (congrArg Prod.fst hE) (by simp)
  | p :: q :: r :: t, hs, _, _ =>
    exfalso
    have hk := hs.keys
    have h1 := hs.some p (by simp)
    have h2 := hs.some q (by simp)
    have h3 := hs.some r (by simp)
    simp only [List.map_cons, List.nodup_cons, List.mem_cons, not_or] at hk
    omega

end Go.Proofs.Ytkcppidmbojglag

/-
  A REGION THAT DRAWS ITS ORDER AND MAKES ROWS ('append(append([]T{}, x...), y)'): some operations read and call (calm ones: each leaves one value, whatever the order), others make rows, or take one over and put more behind it: where a row lies hangs on the order, what it holds does not.
  ONE walk of the calm ones, in lexical order, and one sentence for each row, serve all orders.
  No program is named here.
-/
namespace Go.Proofs.Ytkcppidmbojglag
open Go.RowKit

section
variable {P : Program} {ops : Array Oper} {md : Region.Mode} {W0 : World}

/-! ### values that are there, over a frame -/
def pv (ops : Array Oper) (a : Act) (f : Nat → Option Value) : Nat → Act
  | 0 => a
  | m + 1 => match f m with
    | none => pv ops a f m
    | some v => (pv ops a f m).put (dstOf ops m) v
def upd (f : Nat → Option Value) (i : Nat) (v : Value) : Nat → Option Value := fun j => if j = i then some v else f j
theorem upd_self (f : Nat → Option Value) (i : Nat) (v : Value) : upd f i v i = some v := if_pos rfl
theorem upd_ne (f : Nat → Option Value) {i j : Nat} (v : Value) (h : j ≠ i) : upd f i v j = f j := if_neg h
theorem pv_congr {a : Act} {f g : Nat → Option Value} : ∀ {m : Nat}, (∀ i, i < m → f i = g i) → pv ops a f m = pv ops a g m
  | 0, _ => rfl
  | m + 1, h => by
    unfold pv
    rw [h m (by omega), pv_congr fun i hi => h i (by omega)]
/-- each operation has a place of its own -/
def Dist (ops : Array Oper) (m : Nat) : Prop := ∀ i j, i < m → j < m → i ≠ j → ∀ d, dstOf ops i = some d → dstOf ops j ≠ some d
theorem pv_put {a : Act} {f : Nat → Option Value} {i : Nat} {v : Value} : ∀ {m : Nat}, Dist ops m → i < m → f i = none → pv ops a (upd f i v) m = (pv ops a f m).put (dstOf ops i) v
  | 0, _, hi, _ => by omega
  | m + 1, hd, hi, hf => by
    by_cases e : i = m
    · subst e
      unfold pv
      rw [upd_self, hf]
      simp only
      rw [pv_congr (g := f) fun j hj => upd_ne f v (by omega)]
    · have ih := pv_put (a := a) (v := v) (m := m) (fun i j hi hj => hd i j (by omega) (by omega)) (by omega) hf
      unfold pv
      rw [upd_ne f v (Ne.symm e)]
      cases f m with
      | none => exact ih
      | some u =>
        simp only
        rw [ih, Act.put_comm _ _ _ (hd i m (by omega) (by omega) e)]
theorem put_size (a : Act) (d : Option Tmp) (v : Value) : (a.put d v).tmps.size = a.tmps.size := by cases d <;> simp [Act.put]
theorem pv_size {a : Act} {f : Nat → Option Value} : ∀ {m : Nat}, (pv ops a f m).tmps.size = a.tmps.size
  | 0 => rfl
  | m + 1 => by
    unfold pv
    cases f m with
    | none => exact pv_size
    | some u => simp only; rw [put_size]; exact pv_size
theorem put_get_ne {a : Act} {d : Option Tmp} {v : Value} {t : Nat} (h : d ≠ some t) : (a.put d v).tmps[t]? = a.tmps[t]? := by
  cases d with
  | none => rfl
  | some e =>
    have hne : e ≠ t := fun x => h (by rw [x])
    simp [Act.put, Array.getElem?_setIfInBounds_ne hne]
theorem pv_get {a : Act} {f g : Nat → Option Value} {t : Nat} : ∀ {m : Nat}, (∀ i, i < m → dstOf ops i = some t → f i = g i) → (pv ops a f m).tmps[t]? = (pv ops a g m).tmps[t]?
  | 0, _ => rfl
  | m + 1, h => by
    have ih := pv_get (a := a) (m := m) fun i hi => h i (by omega)
    unfold pv
    by_cases e : dstOf ops m = some t
    · rw [← h m (by omega) e]
      cases f m with
      | none => exact ih
      | some u =>
        simp only
        rw [e]
        simp [Act.put, Array.getElem?_setIfInBounds, pv_size]
    · cases f m with
      | none =>
        cases g m with
        | none => exact ih
        | some u => simp only; rw [put_get_ne e]; exact ih
      | some v =>
        cases g m with
        | none => simp only; rw [put_get_ne e]; exact ih
        | some u => simp only; rw [put_get_ne e, put_get_ne e]; exact ih
theorem pv_same {a : Act} {f g : Nat → Option Value} {m : Nat} {o : Oper} (hs : ∀ cs b, o.op ≠ .select cs b) (h : ∀ i, i < m → ∀ d, dstOf ops i = some d → d ∈ o.looksAt ops → f i = g i) :
    execOp (pv ops a f m).eval o = execOp (pv ops a g m).eval o ∧ Region.wanted o (yielded ops (pv ops a f m).tmps) = Region.wanted o (yielded ops (pv ops a g m).tmps) := by
  constructor
  · refine execOp_congr o hs fun x hx => ?_
    cases x with
    | tmp t =>
      have ht : t ∈ o.looksAt ops := List.mem_append_left _ (List.mem_filterMap.2 ⟨.tmp t, by simpa using hx, rfl⟩)
      have := pv_get (a := a) (m := m) fun i hi hd => h i hi t hd ht
      simp only [Act.eval, Array.getD_eq_getD_getElem?, this]
    | _ => rfl
  · unfold Region.wanted
    cases hg : o.guard with
    | none => rfl
    | some gw =>
      obtain ⟨k, want⟩ := gw
      have hy : yielded ops (pv ops a f m).tmps k = yielded ops (pv ops a g m).tmps k := by
        unfold yielded
        cases ht : (ops[k]?).bind (·.dst) with
        | none => rfl
        | some t =>
          have := pv_get (a := a) (m := m) fun i hi hd => h i hi t hd (by simp [Oper.looksAt, hg, ht])
          simp only [Option.bind_some, this]
      simp only [hy]

/-! ### what is asked of the region's text -/
/-- what an operation looks at it waits for; each has its own place; the lexical order is one of the orders -/
def depB (md : Region.Mode) (ops : Array Oper) (m : Nat) : Bool :=
  (List.range m).all fun i => match ops[i]? with
    | none => false
    | some oi => (oi.after.all fun e => !Region.binds md e || decide (e.on < i)) && (List.range m).all fun k => match ops[k]? with
      | none => false
      | some ok => match ok.dst with
        | none => true
        | some d => (Region.waitsFor md ops i k || !(oi.looksAt ops).contains d) && (decide (k = i) || oi.dst != some d)
section
variable {m : Nat}
theorem depB_some (h : depB md ops m = true) {i : Nat} (hi : i < m) : ∃ o, ops[i]? = some o := by
  have h1 := List.all_eq_true.1 h i (List.mem_range.2 hi)
  cases ho : ops[i]? with
  | none => simp [ho] at h1
  | some o => exact ⟨o, rfl⟩
theorem depB_on (h : depB md ops m = true) {i : Nat} {oi : Oper} (hi : i < m) (ho : ops[i]? = some oi) : ∀ e ∈ oi.after, Region.binds md e = true → e.on < i := fun e he hb => by
  have h1 := List.all_eq_true.1 h i (List.mem_range.2 hi)
  simp only [ho, Bool.and_eq_true] at h1
  have h2 := Array.all_eq_true_iff_forall_mem.1 h1.1 e he
  simpa [hb] using h2
theorem depB_pair (h : depB md ops m = true) {i k : Nat} {oi : Oper} {d : Tmp} (hi : i < m) (ho : ops[i]? = some oi) (hk : k < m) (hd : dstOf ops k = some d) : (Region.waitsFor md ops i k = true ∨ d ∉ oi.looksAt ops) ∧ (k = i ∨ oi.dst ≠ some d) := by
  have h1 := List.all_eq_true.1 h i (List.mem_range.2 hi)
  simp only [ho, Bool.and_eq_true] at h1
  have h2 := List.all_eq_true.1 h1.2 k (List.mem_range.2 hk)
  obtain ⟨ok, hok⟩ := depB_some h hk
  have e : ok.dst = some d := by unfold dstOf at hd; rwa [hok] at hd
  simp only [hok, e, Bool.and_eq_true, Bool.or_eq_true, decide_eq_true_eq, Bool.not_eq_true'] at h2
  refine ⟨?_, ?_⟩
  · rcases h2.1 with h3 | h3
    · exact .inl h3
    · exact .inr (by simpa using h3)
  · rcases h2.2 with h3 | h3
    · exact .inl h3
    · exact .inr (by simpa using h3)
theorem depB_dist (h : depB md ops m = true) : Dist ops m := fun i j hi hj hij d hd hd' => by
  obtain ⟨oj, hoj⟩ := depB_some h hj
  have := (depB_pair h hj hoj hi hd).2
  rcases this with e | e
  · exact hij e
  · exact e (by unfold dstOf at hd'; rwa [hoj] at hd')
end
theorem waits_listed {i k : Nat} {oi : Oper} {ls : Array Bool} (hw : Region.waitsFor md ops i k = true) (ho : ops[i]? = some oi) (hall : ∀ e ∈ oi.after, Region.binds md e = true → ls.getD e.on false = true) : ls.getD k false = true := by
  obtain ⟨o', ho', e, he, hb, hon⟩ := Region.waitsFor_spec hw
  obtain rfl : o' = oi := Option.some.inj (ho'.symm.trans ho)
  rw [← hon]; exact hall e he hb

/-! ### the run -/
/-- all values: rows by ρ, the others by vl -/
def ful (js : List Nat) (vl ρ : Nat → Value) : Nat → Option Value := fun i => some (if js.contains i then ρ i else vl i)
def prt (ls : Array Bool) (js : List Nat) (vl ρ : Nat → Value) : Nat → Option Value := fun i => if ls.getD i false = true then ful js vl ρ i else none
/-- what a row's operation does -/
structure RowDo (P : Program) (ops : Array Oper) (o : Oper) (a : Act) (w : World) (R : Value → World → Prop) (own : Option Nat) : Prop where
  want : Region.wanted o (yielded ops a.tmps) = true
  does : ∃ v w', (execOp a.eval o).run P w = .ok (.value v) w' ∧ R v w' ∧ w.grownBy w' own ∧ ∀ g, v.ownBlock = some g → own = some g ∨ w.heap.size ≤ g
/-- rows hang on their own blocks alone -/
structure RowsOk (W0 : World) (R : Nat → Value → World → Prop) : Prop where
  keep : ∀ j v w w', R j v w → w.heap.size ≤ w'.heap.size → (∀ g, v.ownBlock = some g → w'.heap[g]? = w.heap[g]?) → R j v w'
  lt : ∀ j v w, R j v w → ∀ g, v.ownBlock = some g → W0.heap.size ≤ g ∧ g < w.heap.size
/-- the state that is kept -/
structure Rok (ops : Array Oper) (W0 : World) (m : Nat) (js : List Nat) (ka : Nat → Option Nat) (R : Nat → Value → World → Prop) (ls : Array Bool) (ρ : Nat → Value) (w : World) : Prop where
  bel : Below W0.heap.size W0 w
  row : ∀ k, k < m → k ∈ js → ls.getD k false = true → (∀ j, j < m → ka j = some k → ls.getD j false = false) → R k (ρ k) w
  two : ∀ k l, k < m → l < m → k ∈ js → l ∈ js → k ≠ l → ls.getD k false = true → ls.getD l false = true → (∀ j, j < m → ka j = some k → ls.getD j false = false) → (∀ j, j < m → ka j = some l → ls.getD j false = false) → ∀ g, (ρ k).ownBlock = some g → (ρ l).ownBlock ≠ some g

theorem any_rows {Q' : Exit → Act → World → Prop} {m g : Nat} {js : List Nat} {ka : Nat → Option Nat} {R : Nat → Value → World → Prop} (vl : Nat → Value) (a0 : Act) (hsel : Region.noSelect ops = true) (hD : depB md ops m = true) (hmo : m < ops.size)
    (hsink : Region.sinkB md ops m = true) (hchain : Region.chainB md ops m = true)
    (hka : ∀ i k, i < m → ka i = some k → i ∈ js ∧ k ∈ js ∧ k < m ∧ Region.waitsFor md ops i k = true ∧ ∀ j, j < m → Region.waitsFor md ops j k = true → j = i) (hR : RowsOk W0 R)
    (hcalm : ∀ i o, i < m → i ∉ js → ops[i]? = some o → ∀ ρ, Calm P ops W0 o (vl i) (pv ops a0 (ful js vl ρ) m))
    (hrow : ∀ i o, i < m → i ∈ js → ops[i]? = some o → ∀ ρ w, Below W0.heap.size W0 w → (∀ k, k < m → k ∈ js → Region.waitsFor md ops i k = true → R k (ρ k) w) →
      (∀ k l, k < m → l < m → k ∈ js → l ∈ js → k ≠ l → Region.waitsFor md ops i k = true → Region.waitsFor md ops i l = true → ∀ g, (ρ k).ownBlock = some g → (ρ l).ownBlock ≠ some g) →
      RowDo P ops o (pv ops a0 (ful js vl ρ) m) w (R i) ((ka i).bind fun k => (ρ k).ownBlock))
    (hend : ∀ ρ w, Below W0.heap.size W0 w → (∀ k, k < m → k ∈ js → (∀ j, j < m → ka j ≠ some k) → R k (ρ k) w) → wpAny P md ops Q' g (upto ops m) (pv ops a0 (ful js vl ρ) m) w) :
    ∀ (c : Nat) (ls : Array Bool) (ρ : Nat → Value) (w : World), left ls m = c → ls.size = ops.size → (∀ t, m ≤ t → ls.getD t false = false) → HeadInv md ops m ls → Rok ops W0 m js ka R ls ρ w → wpAny P md ops Q' (c + g) ls (pv ops a0 (prt ls js vl ρ) m) w := by
  intro c
  induction c with
  | zero =>
    intro ls ρ w hc hsz htl _ hs
    have hall := left_none hc
    obtain rfl := upto_of hsz hall htl
    rw [Nat.zero_add, pv_congr (g := ful js vl ρ) fun i hi => by unfold prt; rw [if_pos (hall i hi)]]
    exact hend ρ w hs.bel fun k hk hkj hne => hs.row k hk hkj (hall k hk) fun j hj e => absurd e (hne j hj)
  | succ c ih =>
    intro ls ρ w hc hsz htl inv hs
    have notail : ∀ i ∈ Region.ready md ops ls, i < m := fun i hi => by
      obtain ⟨i0, hi0, hu0⟩ := left_some (ls := ls) (m := m) (by omega)
      rcases Nat.lt_or_ge i m with h | h
      · exact h
      · exact absurd hi (tail_waits hsink hchain hmo inv _ i0 rfl hi0 (getD_in (by omega) hu0) i h)
    have hex : ∃ i, i < m ∧ ls.getD i false = false ∧ ∀ k, k < i → ls.getD k false = true := by
      obtain ⟨i0, hi0, hu0⟩ := left_some (ls := ls) (m := m) (by omega)
      clear ih
      induction i0 using Nat.strongRecOn with
      | _ i0 ih2 =>
        by_cases hk : ∀ k, k < i0 → ls.getD k false = true
        · exact ⟨i0, hi0, hu0, hk⟩
        · obtain ⟨k, hk⟩ := Classical.not_forall.1 hk
          obtain ⟨hk1, hk2⟩ := Classical.not_imp.1 hk
          exact ih2 k hk1 (by omega) (by simpa using hk2)
    rw [show c + 1 + g = (c + g) + 1 by omega]
    refine ⟨fun hnil => ?_, fun i hi => ?_⟩
    · exfalso
      obtain ⟨i, hi, hu, hlo⟩ := hex
      obtain ⟨o, ho⟩ := depB_some hD hi
      have : i ∈ Region.ready md ops ls := mem_ready.2 ⟨getD_in (by omega) hu, o, ho, fun e he hb => hlo _ (depB_on hD hi ho e he hb)⟩
      rw [hnil] at this
      cases this
    · have him := notail i hi
      obtain ⟨hun, o, ho, hall⟩ := mem_ready.1 hi
      have hu := getD_both hun
      have hszi : i < ls.size := by omega
      have hc' : left (ls.setIfInBounds i true) m = c := by have := left_set hszi hu him; omega
      have hself : (ls.setIfInBounds i true).getD i false = true := getD_set_self hszi false
      have hother : ∀ k, k ≠ i → (ls.setIfInBounds i true).getD k false = ls.getD k false := fun k hk => getD_set_ne false (Ne.symm hk)
      have hdi : dstOf ops i = o.dst := by unfold dstOf; rw [ho]; rfl
      have hpn : prt ls js vl ρ i = none := by unfold prt; rw [if_neg (by rw [hu]; simp)]
      have same := pv_same (a := a0) (f := prt ls js vl ρ) (g := ful js vl ρ) (m := m) (Region.noSelect_spec hsel i o · · ho) (fun k hk d hd hl => by
        rcases (depB_pair hD him ho hk hd).1 with h | h
        · unfold prt; rw [if_pos (waits_listed h ho hall)]
        · exact absurd hl h)
      have step : ∀ ρ' u, (∀ k, k ≠ i → ρ' k = ρ k) → (if js.contains i then ρ' i else vl i) = u → (pv ops a0 (prt ls js vl ρ) m).put o.dst u = pv ops a0 (prt (ls.setIfInBounds i true) js vl ρ') m := fun ρ' u hk hu' => by
        rw [← hdi, ← pv_put (depB_dist hD) him hpn]
        refine pv_congr fun k _ => ?_
        by_cases e : k = i
        · subst e
          rw [upd_self]; unfold prt ful; rw [if_pos hself, hu']
        · rw [upd_ne _ _ e]; unfold prt ful; rw [hother k e, hk k e]
      unfold wpOp
      rw [ho]
      simp only [same.2]
      by_cases hij : i ∈ js
      · -- a row
        have free : ∀ k, k < m → k ∈ js → Region.waitsFor md ops i k = true → ∀ j, j < m → ka j = some k → ls.getD j false = false := fun k _ _ hw j hj e => by
          have := (hka j k hj e).2.2.2.2 i him hw
          subst this; exact hu
        obtain ⟨hw, v, w', hrun, hRv, hg, hfr⟩ := hrow i o him hij ho ρ w hs.bel (fun k hk hkj hwk => hs.row k hk hkj (waits_listed hwk ho hall) (free k hk hkj hwk))
          (fun k l hk hl hkj hlj hkl hwk hwl => hs.two k l hk hl hkj hlj hkl (waits_listed hwk ho hall) (waits_listed hwl ho hall) (free k hk hkj hwk) (free l hl hlj hwl))
        rw [if_pos hw]
        refine .inl ?_
        unfold Oper.wp
        rw [same.1, hrun]
        simp only [Oper.upon]
        have hst := step (fun k => if k = i then v else ρ k) v (fun k hk => if_neg hk) (by rw [if_pos (by simpa using hij), if_pos rfl])
        rw [hst]
        -- which block is taken over
        have hown : ∀ k, k < m → k ∈ js → k ≠ i → ls.getD k false = true → (∀ j, j < m → ka j = some k → (ls.setIfInBounds i true).getD j false = false) → ∀ q, (ρ k).ownBlock = some q → ((ka i).bind fun k => (ρ k).ownBlock) ≠ some q := fun k hk hkj hki hlk hfk q hq e => by
          cases hkai : ka i with
          | none => rw [hkai] at e; cases e
          | some k0 =>
            rw [hkai] at e
            have hk0 := hka i k0 him hkai
            have hne : k ≠ k0 := fun x => by
              subst x
              have := hfk i him hkai
              rw [hself] at this; cases this
            refine hs.two k k0 hk hk0.2.2.1 hkj hk0.2.1 hne hlk (waits_listed hk0.2.2.2.1 ho hall) (fun j hj ej => ?_) (free k0 hk0.2.2.1 hk0.2.1 hk0.2.2.2.1) q hq e
            by_cases x : j = i
            · subst x; exact hu
            · have := hfk j hj ej; rwa [hother j x] at this
        have old : ∀ k, k < m → k ∈ js → k ≠ i → (ls.setIfInBounds i true).getD k false = true → (∀ j, j < m → ka j = some k → (ls.setIfInBounds i true).getD j false = false) → R k (ρ k) w := fun k hk hkj hki hlk hfk => by
          rw [hother k hki] at hlk
          refine hs.row k hk hkj hlk fun j hj ej => ?_
          by_cases x : j = i
          · subst x; exact hu
          · have := hfk j hj ej; rwa [hother j x] at this
        refine ih _ _ w' hc' (by simp [hsz]) (fun t ht => by rw [hother t (by omega)]; exact htl t ht) (inv.set hi him) ⟨?_, fun k hk hkj hlk hfk => ?_, fun k l hk hl hkj hlj hkl hlk hll hfk hfl q hq => ?_⟩
        · refine hs.bel.grown hg hs.bel.size fun q hq => ?_
          cases hkai : ka i with
          | none => rw [hkai] at hq; cases hq
          | some k0 =>
            rw [hkai] at hq
            have hk0 := hka i k0 him hkai
            exact (hR.lt k0 (ρ k0) w (hs.row k0 hk0.2.2.1 hk0.2.1 (waits_listed hk0.2.2.2.1 ho hall) (free k0 hk0.2.2.1 hk0.2.1 hk0.2.2.2.1)) q hq).1
        · by_cases e : k = i
          · subst e; rw [if_pos rfl]; exact hRv
          · rw [if_neg e]
            have hRk := old k hk hkj e hlk hfk
            refine hR.keep k _ w w' hRk hg.size fun q hq => hg.block q (hR.lt k _ w hRk q hq).2 fun x => ?_
            rw [hother k e] at hlk
            exact hown k hk hkj e hlk hfk q hq x.symm
        · have key : ∀ k, k < m → k ∈ js → k ≠ i → (ls.setIfInBounds i true).getD k false = true → (∀ j, j < m → ka j = some k → (ls.setIfInBounds i true).getD j false = false) → ∀ q, (ρ k).ownBlock = some q → v.ownBlock ≠ some q := fun k hk hkj hki hlk hfk q hq hv => by
            rcases hfr q hv with x | x
            · rw [hother k hki] at hlk
              exact hown k hk hkj hki hlk hfk q hq x
            · have := (hR.lt k _ w (old k hk hkj hki hlk hfk) q hq).2
              omega
          by_cases e1 : k = i
          · have e2 : l ≠ i := fun x => hkl (e1.trans x.symm)
            rw [if_pos e1] at hq
            rw [if_neg e2]
            exact fun x => key l hl hlj e2 hll hfl q x hq
          · rw [if_neg e1] at hq
            by_cases e2 : l = i
            · rw [if_pos e2]; exact key k hk hkj e1 hlk hfk q hq
            · rw [if_neg e2]
              have f : ∀ k, (∀ j, j < m → ka j = some k → (ls.setIfInBounds i true).getD j false = false) → ∀ j, j < m → ka j = some k → ls.getD j false = false := fun k hfk j hj ej => by
                by_cases x : j = i
                · subst x; exact hu
                · have := hfk j hj ej; rwa [hother j x] at this
              rw [hother k e1] at hlk
              rw [hother l e2] at hll
              exact hs.two k l hk hl hkj hlj hkl hlk hll (f k hfk) (f l hfl) q hq
      · -- a calm one
        have hst := step ρ (vl i) (fun _ _ => rfl) (by rw [if_neg (by simpa using hij)])
        have hka' : ∀ k, ka i = some k → False := fun k e => hij (hka i k him e).1
        have f : ∀ k, (∀ j, j < m → ka j = some k → (ls.setIfInBounds i true).getD j false = false) → ∀ j, j < m → ka j = some k → ls.getD j false = false := fun k hfk j hj ej => by
          by_cases x : j = i
          · subst x; exact hu
          · have := hfk j hj ej; rwa [hother j x] at this
        have go : ∀ w2, Below w.heap.size w w2 → wpAny P md ops Q' (c + g) (ls.setIfInBounds i true) ((pv ops a0 (prt ls js vl ρ) m).put o.dst (vl i)) w2 := fun w2 hb => by
          rw [hst]
          refine ih _ ρ w2 hc' (by simp [hsz]) (fun t ht => by rw [hother t (by omega)]; exact htl t ht) (inv.set hi him) ⟨below_class hs.bel hb, fun k hk hkj hlk hfk => ?_, fun k l hk hl hkj hlj hkl hlk hll hfk hfl q hq => ?_⟩
          · have e : k ≠ i := fun x => hij (x ▸ hkj)
            rw [hother k e] at hlk
            have hRk := hs.row k hk hkj hlk (f k hfk)
            exact hR.keep k _ w w2 hRk hb.size fun q hq => hb.block q (hR.lt k _ w hRk q hq).2
          · have e1 : k ≠ i := fun x => hij (x ▸ hkj)
            have e2 : l ≠ i := fun x => hij (x ▸ hlj)
            rw [hother k e1] at hlk
            rw [hother l e2] at hll
            exact hs.two k l hk hl hkj hlj hkl hlk hll (f k hfk) (f l hfl) q hq
        rcases hcalm i o him hij ho ρ with ⟨hw, hq⟩ | ⟨hw, hv⟩
        · rw [if_pos hw]
          refine .inl (wp_of_calm (v := vl i) ?_ go)
          have := hq w hs.bel
          unfold Oper.quietAt at *
          rwa [same.1]
        · rw [if_neg (by rw [hw]; simp), ← hv]
          exact go w (Below.refl _ _)
end

/-! ### the law -/
section
variable {P : Program} {ops : Array Oper} {W0 : World}
/-- values that are put one behind the other -/
def pl (ops : Array Oper) (vl : Nat → Value) (a : Act) (hs : List Nat) : Act := hs.foldl (fun a i => a.put (dstOf ops i) (vl i)) a
theorem pl_congr {vl vl' : Nat → Value} : ∀ {hs : List Nat} {a : Act}, (∀ i ∈ hs, vl i = vl' i) → pl ops vl a hs = pl ops vl' a hs
  | [], _, _ => rfl
  | i :: hs, a, h => by
    show pl ops vl (a.put (dstOf ops i) (vl i)) hs = pl ops vl' (a.put (dstOf ops i) (vl' i)) hs
    rw [h i (by simp), pl_congr fun k hk => h k (by simp [hk])]
theorem pl_pv {vl : Nat → Value} {a : Act} {m : Nat} (hd : Dist ops m) : ∀ {hs : List Nat} {f : Nat → Option Value}, hs.Nodup → (∀ i ∈ hs, i < m ∧ f i = none) → pl ops vl (pv ops a f m) hs = pv ops a (fun i => if hs.contains i then some (vl i) else f i) m
  | [], f, _, _ => pv_congr fun i _ => by simp
  | i :: hs, f, hn, h => by
    obtain ⟨h1, h2⟩ := List.nodup_cons.1 hn
    show pl ops vl ((pv ops a f m).put (dstOf ops i) (vl i)) hs = _
    have hne : ∀ k, k ∈ hs → k ≠ i := fun k hk e => by subst e; exact h1 hk
    rw [← pv_put hd (h i (by simp)).1 (h i (by simp)).2, pl_pv hd h2 fun k hk => ⟨(h k (by simp [hk])).1, by rw [upd_ne _ _ (hne k hk)]; exact (h k (by simp [hk])).2⟩]
    refine pv_congr fun k _ => ?_
    by_cases e : k = i
    · subst e
      rw [if_neg (by simpa using h1), upd_self, if_pos (by simp)]
    · rw [upd_ne _ _ e]
      by_cases hk : k ∈ hs
      · rw [if_pos (by simpa using hk), if_pos (by simp [hk])]
      · rw [if_neg (by simpa using hk), if_neg (by simp [hk, e])]
theorem calm_vals {Q : Act → Prop} : ∀ (hs : List Nat) (a : Act), hs.Nodup → (∀ i ∈ hs, ∃ o, ops[i]? = some o) → wpCalm P ops W0 Q (hs.filterMap fun i => ops[i]?) a →
    ∃ vl : Nat → Value, Q (pl ops vl a hs) ∧ ∀ pre i post o, hs = pre ++ i :: post → ops[i]? = some o → Calm P ops W0 o (vl i) (pl ops vl a pre)
  | [], a, _, _, h => ⟨fun _ => undef, h, fun pre i post o e => by simp at e⟩
  | i :: hs, a, hn, hex, h => by
    obtain ⟨h1, h2⟩ := List.nodup_cons.1 hn
    obtain ⟨o, ho⟩ := hex i (by simp)
    rw [List.filterMap_cons, ho] at h
    obtain ⟨v, hy, hK⟩ := wpCalm_cons h
    have hdi : dstOf ops i = o.dst := by unfold dstOf; rw [ho]; rfl
    obtain ⟨vl, hQ, hc⟩ := calm_vals hs (a.put o.dst v) h2 (fun k hk => hex k (by simp [hk])) hK
    have hne : ∀ k, k ∈ hs → k ≠ i := fun k hk e => by subst e; exact h1 hk
    have heq : ∀ k ∈ hs, (fun k => if k = i then v else vl k) k = vl k := fun k hk => if_neg (hne k hk)
    refine ⟨fun k => if k = i then v else vl k, ?_, fun pre j post oj e hoj => ?_⟩
    · show Q (pl ops _ (a.put (dstOf ops i) (if i = i then v else vl i)) hs)
      rw [if_pos rfl, hdi, pl_congr heq]; exact hQ
    · cases pre with
      | nil =>
        simp only [List.nil_append, List.cons.injEq] at e
        obtain ⟨rfl, _⟩ := e
        obtain rfl : o = oj := Option.some.inj (ho.symm.trans hoj)
        show Calm P ops W0 o (if i = i then v else vl i) a
        rw [if_pos rfl]; exact hy
      | cons x pre =>
        simp only [List.cons_append, List.cons.injEq] at e
        obtain ⟨rfl, e⟩ := e
        have hj : j ∈ hs := by rw [e]; simp
        have := hc pre j post oj e hoj
        show Calm P ops W0 oj (if j = i then v else vl j) (pl ops _ (a.put (dstOf ops i) (if i = i then v else vl i)) pre)
        rw [if_pos rfl, hdi, if_neg (hne j hj), pl_congr fun k hk => heq k (by rw [e]; simp [hk])]
        exact this
/-- the calm operations of the first n -/
def calmL (js : List Nat) : Nat → Nat → List Oper → List Oper
  | _, 0, _ => []
  | _, _, [] => []
  | i, n + 1, o :: l => if js.contains i then calmL js (i + 1) n l else o :: calmL js (i + 1) n l
theorem calmL_eq (js : List Nat) : ∀ (l : List Oper) (pre : List Oper) (n : Nat), n ≤ l.length → calmL js pre.length n l = (((List.range' pre.length n).filter fun i => !js.contains i).filterMap fun i => (pre ++ l)[i]?)
  | _, pre, 0, _ => by simp [calmL]
  | [], pre, n + 1, h => by simp at h
  | o :: l, pre, n + 1, h => by
    have ih := calmL_eq js l (pre ++ [o]) n (by simpa using h)
    rw [List.length_append, List.length_singleton, List.append_assoc, List.singleton_append] at ih
    rw [calmL, List.range'_succ, List.filter_cons]
    by_cases hj : js.contains pre.length = true
    · rw [if_pos hj, if_neg (by rw [hj]; simp)]; exact ih
    · rw [if_neg hj, if_pos (by simpa using hj), List.filterMap_cons]
      have e : (pre ++ o :: l)[pre.length]? = some o := by simp
      rw [e, ih]
/-- who takes which row over -/
def kaOf (kl : List (Nat × Nat)) (i : Nat) : Option Nat := (kl.find? fun p => p.1 == i).map (·.2)
/-- what is asked of the region's text -/
def rowsB (md : Region.Mode) (ops : Array Oper) (m : Nat) (js : List Nat) (kl : List (Nat × Nat)) : Bool :=
  Region.noSelect ops && depB md ops m && decide (m < ops.size) && Region.sinkB md ops m && Region.chainB md ops m && Region.seqB md ops (ops.size - m) m (upto ops m) && decide js.Nodup && js.all (fun j => decide (j < m)) &&
  kl.all (fun p => js.contains p.1 && js.contains p.2 && Region.waitsFor md ops p.1 p.2 && (List.range m).all fun i => decide (i = p.1) || !Region.waitsFor md ops i p.2) &&
  (List.range m).all fun i => js.contains i || js.all fun j => !Region.waitsFor md ops i j
end
/-- the rows' values are put in -/
def rwv (l : List Oper) (js : List Nat) (ρ : Nat → Value) (a : Act) : Act := pl l.toArray ρ a js

theorem wp_region_rows {P : Program} {id : Nat} {Q : Exit → Act → World → Prop} {a : Act} {w : World} {l : List Oper} (m : Nat) (js : List Nat) (kl : List (Nat × Nat)) (R : Nat → Value → World → Prop) (hm : P.follows .mixedOrders = true) (hB : rowsB .any l.toArray m js kl = true) (hR : RowsOk w.drew R)
    (h : wpCalm P l.toArray w.drew (fun a' =>
      (∀ i o, i ∈ js → l[i]? = some o → ∀ ρ w', Below w.drew.heap.size w.drew w' → (∀ k, k ∈ js → Region.waitsFor .any l.toArray i k = true → R k (ρ k) w') →
        (∀ k k', k ∈ js → k' ∈ js → k ≠ k' → Region.waitsFor .any l.toArray i k = true → Region.waitsFor .any l.toArray i k' = true → ∀ g, (ρ k).ownBlock = some g → (ρ k').ownBlock ≠ some g) →
        RowDo P l.toArray o (rwv l js ρ a') w' (R i) ((kaOf kl i).bind fun k => (ρ k).ownBlock)) ∧
      ∀ ρ w', Below w.drew.heap.size w.drew w' → (∀ k, k ∈ js → (kl.all fun p => p.2 != k) = true → R k (ρ k) w') → wpList P l.toArray Q (l.drop m) (rwv l js ρ a') w') (calmL js 0 m l) a) :
    (Code.region id l.toArray true).wp P Q a w := by
  simp only [rowsB, Bool.and_eq_true, decide_eq_true_eq] at hB
  obtain ⟨⟨⟨⟨⟨⟨⟨⟨⟨hsel, hD⟩, hmo⟩, hsink⟩, hchain⟩, hseq⟩, hnd⟩, hjm⟩, hkl⟩, hcj⟩ := hB
  have hmo' : m < l.length := by simpa using hmo
  have hdl : (l.drop m).length = l.toArray.size - m := by simp
  have hjm' : ∀ j ∈ js, j < m := fun j hj => by simpa using List.all_eq_true.1 hjm j hj
  have hdist := depB_dist hD
  have e0 := calmL_eq js l [] m (by omega)
  simp only [List.length_nil, List.nil_append] at e0
  rw [e0] at h
  have hget : ∀ i : Nat, l[i]? = l.toArray[i]? := fun i => by simp
  have hfm : (((List.range' 0 m).filter fun i => !js.contains i).filterMap fun i => l[i]?) = (((List.range' 0 m).filter fun i => !js.contains i).filterMap fun i => l.toArray[i]?) := by
    congr 1
    funext i
    exact hget i
  rw [hfm] at h
  have hsn : ((List.range' 0 m).filter fun i => !js.contains i).Nodup := (List.nodup_range' ..).filter _
  have hslt : ((List.range' 0 m).filter fun i => !js.contains i).Pairwise (· < ·) := (List.pairwise_lt_range' ..).filter _
  have hsm : ∀ i, i ∈ ((List.range' 0 m).filter fun i => !js.contains i) ↔ i < m ∧ i ∉ js := fun i => by
    rw [List.mem_filter, List.mem_range'_1]
    simp
  obtain ⟨vl, hQ, hc⟩ := calm_vals _ a hsn (fun i hi => depB_some hD ((hsm i).1 hi).1) h
  have hka : ∀ i k, i < m → kaOf kl i = some k → i ∈ js ∧ k ∈ js ∧ k < m ∧ Region.waitsFor .any l.toArray i k = true ∧ ∀ j, j < m → Region.waitsFor .any l.toArray j k = true → j = i := fun i k _ e => by
    unfold kaOf at e
    obtain ⟨p, hp, rfl⟩ := Option.map_eq_some_iff.1 e
    have hpm := List.mem_of_find?_eq_some hp
    have hpi : p.1 = i := by simpa using List.find?_some hp
    have := List.all_eq_true.1 hkl p hpm
    simp only [Bool.and_eq_true, List.all_eq_true, List.mem_range, Bool.or_eq_true, decide_eq_true_eq, Bool.not_eq_true'] at this
    obtain ⟨⟨⟨a1, a2⟩, a3⟩, a4⟩ := this
    rw [hpi] at a1 a3 a4
    have a2' : p.2 ∈ js := by simpa using a2
    refine ⟨by simpa using a1, a2', hjm' _ a2', a3, fun j hj hw => ?_⟩
    rcases a4 j hj with x | x
    · exact x
    · rw [hw] at x; cases x
  -- the frames
  have hpl : ∀ pre, (∀ i ∈ pre, i < m) → pre.Nodup → pl l.toArray vl a pre = pv l.toArray a (fun i => if pre.contains i then some (vl i) else none) m := fun pre h1 h2 => by
    have := pl_pv (vl := vl) (a := a) hdist (f := fun _ => none) h2 fun i hi => ⟨h1 i hi, rfl⟩
    rwa [show pv l.toArray a (fun _ => none) m = a from by
      have : ∀ k, pv l.toArray a (fun _ => none) k = a := fun k => by
        induction k with
        | zero => rfl
        | succ k ih => unfold pv; exact ih
      exact this m] at this
  have hful : ∀ ρ, rwv l js ρ (pl l.toArray vl a ((List.range' 0 m).filter fun i => !js.contains i)) = pv l.toArray a (ful js vl ρ) m := fun ρ => by
    unfold rwv
    rw [hpl _ (fun i hi => ((hsm i).1 hi).1) hsn, pl_pv hdist hnd fun i hi => ⟨hjm' i hi, if_neg (by intro hh; exact ((hsm i).1 (by simpa using hh)).2 hi)⟩]
    refine pv_congr fun i hi => ?_
    unfold ful
    by_cases hj : i ∈ js
    · rw [if_pos (List.contains_iff_mem.2 hj), if_pos (List.contains_iff_mem.2 hj)]
    · rw [if_neg (fun x => hj (List.contains_iff_mem.1 x)), if_neg (fun x => hj (List.contains_iff_mem.1 x)), if_pos (List.contains_iff_mem.2 ((hsm i).2 ⟨hi, hj⟩))]
  refine wp_region_any hm ?_
  have inv0 : HeadInv .any l.toArray m (Array.replicate l.toArray.size false) :=
    ⟨by simp, fun j oj _ hl => (by rw [getD_replicate_false] at hl; cases hl), fun t _ ht => getD_in (by simpa using ht) (getD_replicate_false _ _)⟩
  have hl0 : left (Array.replicate l.toArray.size false) m = m := by
    have : ∀ k, left (Array.replicate l.toArray.size false) k = k := fun k => by
      induction k with
      | zero => rfl
      | succ k ih => unfold left; rw [ih, getD_replicate_false]; simp
    exact this m
  have := any_rows (md := .any) (P := P) (W0 := w.drew) (Q' := Q) (g := l.toArray.size - m) (js := js) (ka := kaOf kl) (R := R) vl a hsel hD hmo hsink hchain hka hR
    (fun i o hi hij ho ρ => by
      have him : i ∈ ((List.range' 0 m).filter fun i => !js.contains i) := (hsm i).2 ⟨hi, hij⟩
      obtain ⟨pre, post, e⟩ := List.append_of_mem him
      have hC := hc pre i post o e ho
      have hpn : pre.Nodup := by rw [e] at hsn; exact (List.nodup_append.1 hsn).1
      have hpm : ∀ k ∈ pre, k < m := fun k hk => ((hsm k).1 (by rw [e]; simp [hk])).1
      rw [hpl pre hpm hpn] at hC
      have sm := pv_same (a := a) (f := ful js vl ρ) (g := fun i => if pre.contains i then some (vl i) else none) (m := m) (Region.noSelect_spec hsel i o · · ho) (fun k hk d hd hl => by
        rcases (depB_pair hD hi ho hk hd).1 with hw | hw
        · obtain ⟨o', ho', ee, he, hb, hon⟩ := Region.waitsFor_spec hw
          obtain rfl : o' = o := Option.some.inj (ho'.symm.trans ho)
          have hki : k < i := by rw [← hon]; exact depB_on hD hi ho ee he hb
          have hkj : k ∉ js := fun hkj => by
            have := List.all_eq_true.1 hcj i (List.mem_range.2 hi)
            simp only [Bool.or_eq_true] at this
            rcases this with x | x
            · exact hij (by simpa using x)
            · have := List.all_eq_true.1 x k hkj
              rw [hw] at this; cases this
          have hkh : k ∈ ((List.range' 0 m).filter fun i => !js.contains i) := (hsm k).2 ⟨hk, hkj⟩
          rw [e] at hkh hslt
          have hkp : k ∈ pre := by
            rcases List.mem_append.1 hkh with x | x
            · exact x
            · rcases List.mem_cons.1 x with x | x
              · omega
              · have := (List.pairwise_cons.1 (List.pairwise_append.1 hslt).2.1).1 k x
                omega
          unfold ful
          rw [if_neg (by simpa using hkj), if_pos (by simpa using hkp)]
        · exact absurd hl hw)
      exact hC.same sm.1 sm.2)
    (fun i o hi hij ho ρ w' hb h1 h2 => by
      rw [← hful ρ]
      exact hQ.1 i o hij (by rw [hget]; exact ho) ρ w' hb (fun k hk hw => h1 k (hjm' k hk) hk hw) (fun k k' hk hk' hne hw hw' => h2 k k' (hjm' k hk) (hjm' k' hk') hk hk' hne hw hw'))
    (fun ρ w' hb h1 => by
      have := wpAny_of_seq (md := .any) (Q' := Q) (l.drop m) m (upto l.toArray m) (rwv l js ρ (pl l.toArray vl a ((List.range' 0 m).filter fun i => !js.contains i))) w' (fun j => by simp [List.getElem?_drop]) (by rw [hdl]; exact hseq) (hQ.2 ρ w' hb fun k hk hu => h1 k (hjm' k hk) hk fun j hj e => by
        unfold kaOf at e
        obtain ⟨p, hp, e2⟩ := Option.map_eq_some_iff.1 e
        have := List.all_eq_true.1 hu p (List.mem_of_find?_eq_some hp)
        simp [e2] at this)
      rw [hdl, hful ρ] at this
      exact this)
    m (Array.replicate l.toArray.size false) (fun _ => undef) w.drew hl0 (by simp) (fun t _ => getD_replicate_false _ _) inv0
    ⟨Below.refl _ _, fun k _ _ hk => (by rw [getD_replicate_false] at hk; cases hk), fun k _ _ _ _ _ _ hk => (by rw [getD_replicate_false] at hk; cases hk)⟩
  rw [show m + (l.toArray.size - m) = l.toArray.size by omega, show pv l.toArray a (prt (Array.replicate l.toArray.size false) js vl fun _ => undef) m = a from by
    have : ∀ k, pv l.toArray a (prt (Array.replicate l.toArray.size false) js vl fun _ => undef) k = a := fun k => by
      induction k with
      | zero => rfl
      | succ k ih =>
        unfold pv
        rw [show prt (Array.replicate l.toArray.size false) js vl (fun _ => undef) k = none from by unfold prt; rw [if_neg (by rw [getD_replicate_false]; simp)]]
        exact ih
    exact this m] at this
  exact this

end Go.Proofs.Ytkcppidmbojglag

/- What a call leaves as it was; pairs, numbers and plans in memory. -/
namespace Go.Proofs.Ytkcppidmbojglag
open Go.RowKit

/-- what is written lies in F; all else that was there is as it was -/
structure Kp (F : Nat → Prop) (w w' : World) : Prop where
  os : w'.os = w.os
  tape : w'.tape = w.tape
  output : w'.output = w.output
  size : w.heap.size ≤ w'.heap.size
  block : ∀ k, k < w.heap.size → ¬ F k → w'.heap[k]? = w.heap[k]?
section
variable {F G : Nat → Prop} {w w' w'' : World}
theorem Kp.refl (F : Nat → Prop) (w : World) : Kp F w w := ⟨rfl, rfl, rfl, Nat.le_refl _, fun _ _ _ => rfl⟩
theorem Kp.trans (h : Kp F w w') (k : Kp G w' w'') (hg : ∀ i, i < w.heap.size → G i → F i) : Kp F w w'' :=
  ⟨k.os.trans h.os, k.tape.trans h.tape, k.output.trans h.output, Nat.le_trans h.size k.size, fun i hi hf => (k.block i (Nat.lt_of_lt_of_le hi h.size) (fun hG => hf (hg i hi hG))).trans (h.block i hi hf)⟩
theorem Kp.mono (h : Kp F w w') (hg : ∀ i, i < w.heap.size → F i → G i) : Kp G w w' := ⟨h.os, h.tape, h.output, h.size, fun i hi hf => h.block i hi (fun hF => hf (hg i hi hF))⟩
theorem Kp.ofBelow (F : Nat → Prop) (h : Below w.heap.size w w') : Kp F w w' := ⟨h.os, h.tape, h.output, h.size, fun i hi _ => h.block i hi⟩
theorem Kp.toBelow {B : Nat} (h : Kp F w w') (hB : B ≤ w.heap.size) (hF : ∀ i, i < B → ¬ F i) : Below B w w' := ⟨h.os, h.tape, h.output, h.size, fun i hi => h.block i (by omega) (hF i hi)⟩
theorem Kp.below {B : Nat} {a : World} (h : Kp F w w') (hb : Below B a w) (hB : B ≤ w.heap.size) (hF : ∀ i, i < B → ¬ F i) : Below B a w' := hb.trans (h.toBelow hB hF)
theorem Kp.thenBelow (h : Kp F w w') (k : Below w'.heap.size w' w'') : Kp F w w'' := h.trans (Kp.ofBelow F k) (fun _ _ h => h)
theorem Kp.alloc (h : Kp F w w') (o : Obj) : Kp F w (w'.alloc o) := h.trans (Kp.ofBelow F ((Below.refl _ _).alloc (Nat.le_refl _) o)) (fun _ _ h => h)
theorem Kp.drew (h : Kp F w w') : Kp F w w'.drew := h.trans (Kp.ofBelow F (Below.refl _ _).drew) (fun _ _ h => h)
theorem Kp.set (h : Kp F w w') (b i : Nat) (u : Value) (hF : b < w.heap.size → F b) : Kp F w (w'.setCell ⟨b, i, none⟩ u) :=
  h.trans (G := fun k => k = b) ⟨rfl, rfl, rfl, by simp [World.setCell], fun k _ hk => Below.heap_setCell _ _ _ _ hk⟩ (fun k hk e => by subst e; exact hF hk)
theorem Kp.put (h : Kp F w w') (b : Nat) (o : Obj) (hF : b < w.heap.size → F b) : Kp F w (w'.putObj b o) :=
  h.trans (G := fun k => k = b) ⟨rfl, rfl, rfl, by simp, fun k _ hk => World.putObj_heap_other hk⟩ (fun k hk e => by subst e; exact hF hk)
theorem Kp.grown {row : Option Nat} (h : Kp F w w') (hg : w'.grownBy w'' row) (hF : ∀ k, k < w.heap.size → row = some k → F k) : Kp F w w'' :=
  h.trans (G := fun k => row = some k) ⟨hg.os, hg.tape, hg.output, hg.size, fun k hk hne => hg.block k hk (fun e => hne e.symm)⟩ (fun k hk e => hF k hk e)
end

/-- a slice that reads as pairs of numbers, in blocks of D -/
def R2 (D : Nat → Prop) (W : World) (v : Value) (l : List (Int × Int)) : Prop :=
  ∃ a cap, v = .slice a l.length cap ∧ l.length ≤ cap ∧ (a = none → cap = 0) ∧ (l = [] ∨ ∃ g o, a = some ⟨g, o, none⟩ ∧ D g ∧ g < W.heap.size ∧ ∀ (i : Nat) y, l[i]? = some y → W.cell? ⟨g, o + i * 2, none⟩ = some (.int .i64 y.1) ∧ W.cell? ⟨g, o + i * 2 + 1, none⟩ = some (.int .i64 y.2))
/-- a slice that reads as numbers, in blocks of D -/
def RI (D : Nat → Prop) (W : World) (v : Value) (l : List Int) : Prop :=
  ∃ a cap, v = .slice a l.length cap ∧ l.length ≤ cap ∧ (a = none → cap = 0) ∧ (l = [] ∨ ∃ g o, a = some ⟨g, o, none⟩ ∧ D g ∧ g < W.heap.size ∧ ∀ (i : Nat) x, l[i]? = some x → W.cell? ⟨g, o + i, none⟩ = some (.int .i64 x))
/-- a slice that reads as lists of numbers, all in blocks of D -/
def RL (D : Nat → Prop) (W : World) (v : Value) (p : List (List Int)) : Prop :=
  ∃ a cap, v = .slice a p.length cap ∧ p.length ≤ cap ∧ (a = none → cap = 0) ∧ (p = [] ∨ ∃ g o, a = some ⟨g, o, none⟩ ∧ D g ∧ g < W.heap.size ∧ ∀ (i : Nat) l, p[i]? = some l → ∃ u, W.cell? ⟨g, o + i, none⟩ = some u ∧ RI D W u l)
section
variable {D D' : Nat → Prop} {W W' : World} {v : Value}
theorem R2.keep {l : List (Int × Int)} (h : R2 D W v l) (hs : W.heap.size ≤ W'.heap.size) (hk : ∀ g, D g → g < W.heap.size → W'.heap[g]? = W.heap[g]?) : R2 D W' v l := by
  obtain ⟨a, cap, rfl, hc, hn, h⟩ := h
  refine ⟨a, cap, rfl, hc, hn, ?_⟩
  rcases h with h | ⟨g, o, rfl, hd, hlt, h⟩
  · exact .inl h
  · exact .inr ⟨g, o, rfl, hd, Nat.lt_of_lt_of_le hlt hs, fun i y hy => ⟨(World.cell?_of_block (a := ⟨g, o + i * 2, none⟩) (hk g hd hlt)).trans (h i y hy).1, (World.cell?_of_block (a := ⟨g, o + i * 2 + 1, none⟩) (hk g hd hlt)).trans (h i y hy).2⟩⟩
theorem RI.keep {l : List Int} (h : RI D W v l) (hs : W.heap.size ≤ W'.heap.size) (hk : ∀ g, D g → g < W.heap.size → W'.heap[g]? = W.heap[g]?) : RI D W' v l := by
  obtain ⟨a, cap, rfl, hc, hn, h⟩ := h
  refine ⟨a, cap, rfl, hc, hn, ?_⟩
  rcases h with h | ⟨g, o, rfl, hd, hlt, h⟩
  · exact .inl h
  · exact .inr ⟨g, o, rfl, hd, Nat.lt_of_lt_of_le hlt hs, fun i y hy => (World.cell?_of_block (a := ⟨g, o + i, none⟩) (hk g hd hlt)).trans (h i y hy)⟩
theorem RL.keep {p : List (List Int)} (h : RL D W v p) (hs : W.heap.size ≤ W'.heap.size) (hk : ∀ g, D g → g < W.heap.size → W'.heap[g]? = W.heap[g]?) : RL D W' v p := by
  obtain ⟨a, cap, rfl, hc, hn, h⟩ := h
  refine ⟨a, cap, rfl, hc, hn, ?_⟩
  rcases h with h | ⟨g, o, rfl, hd, hlt, h⟩
  · exact .inl h
  · refine .inr ⟨g, o, rfl, hd, Nat.lt_of_lt_of_le hlt hs, fun i l hl => ?_⟩
    obtain ⟨u, h1, h2⟩ := h i l hl
    exact ⟨u, (World.cell?_of_block (a := ⟨g, o + i, none⟩) (hk g hd hlt)).trans h1, h2.keep hs hk⟩
theorem R2.mono {l : List (Int × Int)} (h : R2 D W v l) (hD : ∀ g, D g → g < W.heap.size → (∃ o : Obj, W.heap[g]? = some o ∧ o.isCells = true) → D' g) : R2 D' W v l := by
  obtain ⟨a, cap, rfl, hc, hn, h⟩ := h
  refine ⟨a, cap, rfl, hc, hn, ?_⟩
  rcases h with h | ⟨g, o, rfl, hd, hlt, h⟩
  · exact .inl h
  · cases l with
    | nil => exact .inl rfl
    | cons y l => exact .inr ⟨g, o, rfl, hD g hd hlt (cells_of_cell (h 0 y rfl).1), hlt, h⟩
theorem RI.mono {l : List Int} (h : RI D W v l) (hD : ∀ g, D g → g < W.heap.size → (∃ o : Obj, W.heap[g]? = some o ∧ o.isCells = true) → D' g) : RI D' W v l := by
  obtain ⟨a, cap, rfl, hc, hn, h⟩ := h
  refine ⟨a, cap, rfl, hc, hn, ?_⟩
  rcases h with h | ⟨g, o, rfl, hd, hlt, h⟩
  · exact .inl h
  · cases l with
    | nil => exact .inl rfl
    | cons y l => exact .inr ⟨g, o, rfl, hD g hd hlt (cells_of_cell (h 0 y rfl)), hlt, h⟩
theorem RL.mono {p : List (List Int)} (h : RL D W v p) (hD : ∀ g, D g → g < W.heap.size → (∃ o : Obj, W.heap[g]? = some o ∧ o.isCells = true) → D' g) : RL D' W v p := by
  obtain ⟨a, cap, rfl, hc, hn, h⟩ := h
  refine ⟨a, cap, rfl, hc, hn, ?_⟩
  rcases h with h | ⟨g, o, rfl, hd, hlt, h⟩
  · exact .inl h
  · cases p with
    | nil => exact .inl rfl
    | cons y l =>
      obtain ⟨u, h1, _⟩ := h 0 y rfl
      refine .inr ⟨g, o, rfl, hD g hd hlt (cells_of_cell h1), hlt, fun i l hl => ?_⟩
      obtain ⟨u, h1, h2⟩ := h i l hl
      exact ⟨u, h1, h2.mono hD⟩
theorem R2.below' {l : List (Int × Int)} (h : R2 D W v l) (hb : Below W.heap.size W W') : R2 D W' v l := h.keep hb.size fun g _ hlt => hb.block g hlt
theorem RI.below' {l : List Int} (h : RI D W v l) (hb : Below W.heap.size W W') : RI D W' v l := h.keep hb.size fun g _ hlt => hb.block g hlt
theorem RL.below' {p : List (List Int)} (h : RL D W v p) (hb : Below W.heap.size W W') : RL D W' v p := h.keep hb.size fun g _ hlt => hb.block g hlt
theorem R2.alloc {l : List (Int × Int)} (h : R2 D W v l) (o : Obj) : R2 D (W.alloc o) v l := h.below' ((Below.refl _ _).alloc (Nat.le_refl _) o)
theorem RI.alloc {l : List Int} (h : RI D W v l) (o : Obj) : RI D (W.alloc o) v l := h.below' ((Below.refl _ _).alloc (Nat.le_refl _) o)
theorem RL.alloc {p : List (List Int)} (h : RL D W v p) (o : Obj) : RL D (W.alloc o) v p := h.below' ((Below.refl _ _).alloc (Nat.le_refl _) o)
theorem R2.form {l : List (Int × Int)} (h : R2 D W v l) : ∃ a cap, v = .slice a l.length cap ∧ l.length ≤ cap ∧ (a = none → cap = 0) := by
  obtain ⟨a, cap, h1, h2, h3, _⟩ := h
  exact ⟨a, cap, h1, h2, h3⟩
theorem RI.form {l : List Int} (h : RI D W v l) : ∃ a cap, v = .slice a l.length cap ∧ l.length ≤ cap ∧ (a = none → cap = 0) := by
  obtain ⟨a, cap, h1, h2, h3, _⟩ := h
  exact ⟨a, cap, h1, h2, h3⟩
theorem RL.form {p : List (List Int)} (h : RL D W v p) : ∃ a cap, v = .slice a p.length cap ∧ p.length ≤ cap ∧ (a = none → cap = 0) := by
  obtain ⟨a, cap, h1, h2, h3, _⟩ := h
  exact ⟨a, cap, h1, h2, h3⟩
theorem R2.at {l : List (Int × Int)} {a : Option Addr} {n cap : Nat} (h : R2 D W (.slice a n cap) l) {i : Nat} {y : Int × Int} (hi : l[i]? = some y) : ∃ g o, a = some ⟨g, o, none⟩ ∧ W.cell? ⟨g, o + i * 2, none⟩ = some (.int .i64 y.1) ∧ W.cell? ⟨g, o + i * 2 + 1, none⟩ = some (.int .i64 y.2) := by
  obtain ⟨a', cap', e, _, _, h⟩ := h
  cases e
  rcases h with h | ⟨g, o, rfl, _, _, h⟩
  · rw [h] at hi; simp at hi
  · exact ⟨g, o, rfl, h i y hi⟩
theorem RI.at {l : List Int} {a : Option Addr} {n cap : Nat} (h : RI D W (.slice a n cap) l) {i : Nat} {y : Int} (hi : l[i]? = some y) : ∃ g o, a = some ⟨g, o, none⟩ ∧ W.cell? ⟨g, o + i, none⟩ = some (.int .i64 y) := by
  obtain ⟨a', cap', e, _, _, h⟩ := h
  cases e
  rcases h with h | ⟨g, o, rfl, _, _, h⟩
  · rw [h] at hi; simp at hi
  · exact ⟨g, o, rfl, h i y hi⟩
theorem RL.at {p : List (List Int)} {a : Option Addr} {n cap : Nat} (h : RL D W (.slice a n cap) p) {i : Nat} {l : List Int} (hi : p[i]? = some l) : ∃ g o, a = some ⟨g, o, none⟩ ∧ ∃ u, W.cell? ⟨g, o + i, none⟩ = some u ∧ RI D W u l := by
  obtain ⟨a', cap', e, _, _, h⟩ := h
  cases e
  rcases h with h | ⟨g, o, rfl, _, _, h⟩
  · rw [h] at hi; simp at hi
  · exact ⟨g, o, rfl, h i l hi⟩
theorem R2.len {l : List (Int × Int)} {a : Option Addr} {n cap : Nat} (h : R2 D W (.slice a n cap) l) : n = l.length := by
  obtain ⟨a', cap', e, _⟩ := h
  cases e; rfl
theorem RI.len {l : List Int} {a : Option Addr} {n cap : Nat} (h : RI D W (.slice a n cap) l) : n = l.length := by
  obtain ⟨a', cap', e, _⟩ := h
  cases e; rfl
theorem RL.len {p : List (List Int)} {a : Option Addr} {n cap : Nat} (h : RL D W (.slice a n cap) p) : n = p.length := by
  obtain ⟨a', cap', e, _⟩ := h
  cases e; rfl
theorem RI.nil (D : Nat → Prop) (W : World) : RI D W (.slice none 0 0) [] := ⟨none, 0, rfl, Nat.le_refl _, fun _ => rfl, .inl rfl⟩
theorem RL.nil (D : Nat → Prop) (W : World) : RL D W (.slice none 0 0) [] := ⟨none, 0, rfl, Nat.le_refl _, fun _ => rfl, .inl rfl⟩
/-- the cells of a list that isn't empty -/
theorem RI.cells {l : List Int} {g o n cap : Nat} (h : RI D W (.slice (some ⟨g, o, none⟩) n cap) l) : ∀ (i : Nat) x, l[i]? = some x → W.cell? ⟨g, o + i, none⟩ = some (.int .i64 x) := fun i x hi => by
  obtain ⟨g', o', e, h⟩ := h.at hi
  cases e
  exact h
end

/- where the elements of slices lie -/
theorem ixI (W : World) {a : Option Addr} {g o n cap j : Nat} (ha : a = some ⟨g, o, none⟩) (hj : j < n) : (Instr.indexAt 36 (.slice a n cap) (.int .i64 (j : Int))).run Try.prog W = .ok (.pointer (some ⟨g, o + j, none⟩)) W := by
  subst ha
  rw [run_indexAt_slice W 36 _ n cap .i64 j (by kernel_rfl), if_pos ⟨by omega, by omega⟩, show Try.prog.elem 36 = 3 by kernel_rfl, Try.sizeOf3]
  simp only [Result.andThen_ok, Int.toNat_natCast, Addr.add_mid, Nat.mul_one]
theorem ixP (W : World) {a : Option Addr} {g o n cap j : Nat} (ha : a = some ⟨g, o, none⟩) (hj : j < n) : (Instr.indexAt 29 (.slice a n cap) (.int .i64 (j : Int))).run Try.prog W = .ok (.pointer (some ⟨g, o + j, none⟩)) W := by
  subst ha
  rw [run_indexAt_slice W 29 _ n cap .i64 j (by kernel_rfl), if_pos ⟨by omega, by omega⟩, show Try.prog.elem 29 = 36 by kernel_rfl, Try.sizeOf36]
  simp only [Result.andThen_ok, Int.toNat_natCast, Addr.add_mid, Nat.mul_one]
theorem ixW (W : World) {a : Option Addr} {g o n cap j : Nat} (ha : a = some ⟨g, o, none⟩) (hj : j < n) : (Instr.indexAt 25 (.slice a n cap) (.int .i64 (j : Int))).run Try.prog W = .ok (.pointer (some ⟨g, o + j * 2, none⟩)) W := by
  subst ha
  rw [run_indexAt_slice W 25 _ n cap .i64 j (by kernel_rfl), if_pos ⟨by omega, by omega⟩, show Try.prog.elem 25 = 46 by kernel_rfl, Try.sizeOf46]
  simp only [Result.andThen_ok, Int.toNat_natCast, Addr.add_mid]
theorem ixR (W : World) {a : Option Addr} {g o n cap j : Nat} (ha : a = some ⟨g, o, none⟩) (hj : j < n) : (Instr.indexAt 24 (.slice a n cap) (.int .i64 (j : Int))).run Try.prog W = .ok (.pointer (some ⟨g, o + j * 2, none⟩)) W := by
  subst ha
  rw [run_indexAt_slice W 24 _ n cap .i64 j (by kernel_rfl), if_pos ⟨by omega, by omega⟩, show Try.prog.elem 24 = 44 by kernel_rfl, Try.sizeOf44]
  simp only [Result.andThen_ok, Int.toNat_natCast, Addr.add_mid]

/-- the cells of numbers -/
def ic (l : List Int) : List Value := l.map fun (n : Int) => Value.int .i64 n
theorem ic_length (l : List Int) : (ic l).length = l.length := by unfold ic; rw [List.length_map]
theorem ic_append (l m : List Int) : ic (l ++ m) = ic l ++ ic m := by unfold ic; rw [List.map_append]
theorem ic_some {l : List Int} {i : Nat} {x : Int} (h : l[i]? = some x) : (ic l)[i]? = some (.int .i64 x) := by
  unfold ic; rw [List.getElem?_map, h]; rfl
theorem ic_get {l : List Int} {i : Nat} {u : Value} (h : (ic l)[i]? = some u) : ∃ x, l[i]? = some x ∧ u = .int .i64 x := by
  unfold ic at h
  rw [List.getElem?_map] at h
  cases e : l[i]? with
  | none => rw [e] at h; simp at h
  | some x => rw [e] at h; simp at h; exact ⟨x, rfl, h.symm⟩
theorem ic_one (l : List Int) : ∀ u ∈ ic l, u.oneCell' = true := by
  intro u hu
  obtain ⟨n, _, rfl⟩ := List.mem_map.1 hu
  rfl
/-- a slice value that owns a row of numbers, in blocks from B on -/
def OI (W : World) (B : Nat) (v : Value) (l : List Int) : Prop := W.ownsRow B 3 1 v l.length (ic l)
section
variable {W W' : World} {B : Nat} {v : Value} {l : List Int}
theorem OI.nil (W : World) (B : Nat) : OI W B (.slice none 0 0) [] := World.ownsRow_nil W B _ 1
theorem OI.form (h : OI W B v l) : (v = .slice none 0 0 ∧ l = []) ∨ ∃ g cap, v = .slice (some ⟨g, 0, none⟩) l.length cap ∧ B ≤ g ∧ g < W.heap.size ∧ l.length ≤ cap ∧ cap ≤ maxLen := by
  rcases h.2 with ⟨h1, h2⟩ | ⟨g, cap, cur, hv, hb, hg, hc, hm, _⟩
  · exact .inl ⟨h1, List.length_eq_zero_iff.1 h2⟩
  · exact .inr ⟨g, cap, hv, hb, (Array.getElem?_eq_some_iff.1 hg).1, hc, hm⟩
theorem OI.slice (h : OI W B v l) : ∃ a c, v = .slice a l.length c := by
  rcases h.form with ⟨rfl, rfl⟩ | ⟨g, cap, rfl, _⟩
  · exact ⟨none, 0, rfl⟩
  · exact ⟨_, cap, rfl⟩
theorem OI.lt (h : OI W B v l) : ∀ g, v.ownBlock = some g → B ≤ g ∧ g < W.heap.size := World.ownsRow.lt h
theorem OI.keep (h : OI W B v l) (hk : ∀ g, v.ownBlock = some g → W'.heap[g]? = W.heap[g]?) : OI W' B v l := by
  refine ⟨h.1, ?_⟩
  rcases h.2 with h2 | ⟨g, cap, cur, hv, hb, hg, r⟩
  · exact .inl h2
  · exact .inr ⟨g, cap, cur, hv, hb, (hk g (by rw [hv]; rfl)).trans hg, r⟩
theorem OI.below' (h : OI W B v l) (hb : Below W.heap.size W W') : OI W' B v l := h.keep fun g hg => hb.block g (h.lt g hg).2
theorem OI.alloc (h : OI W B v l) (o : Obj) : OI (W.alloc o) B v l := h.below' ((Below.refl _ _).alloc (Nat.le_refl _) o)
theorem OI.mono {B' : Nat} (h : OI W B v l) (hB : B' ≤ B) : OI W B' v l := by
  refine ⟨h.1, ?_⟩
  rcases h.2 with h2 | ⟨g, cap, cur, hv, hb, r⟩
  · exact .inl h2
  · exact .inr ⟨g, cap, cur, hv, Nat.le_trans hB hb, r⟩
theorem OI.cell {g cap n : Nat} (h : OI W B (.slice (some ⟨g, 0, none⟩) n cap) l) {i : Nat} {x : Int} (hi : l[i]? = some x) : W.cell? ⟨g, i, none⟩ = some (.int .i64 x) := by
  have := World.ownsRow.cells h (g := g) rfl i _ (ic_some hi)
  rwa [Addr.add_mid, Nat.zero_add] at this
theorem OI.ri {D : Nat → Prop} (h : OI W B v l) (hD : ∀ g, v.ownBlock = some g → D g) : RI D W v l := by
  rcases h.form with ⟨rfl, rfl⟩ | ⟨g, cap, rfl, _, hlt, hc, hm⟩
  · exact RI.nil _ _
  · exact ⟨_, cap, rfl, hc, (fun e => by cases e), .inr ⟨g, 0, rfl, hD g rfl, hlt, fun i x hx => by rw [Nat.zero_add]; exact h.cell hx⟩⟩
theorem OI.len {a : Option Addr} {n cap : Nat} (h : OI W B (.slice a n cap) l) : n = l.length := by
  rcases h.form with ⟨h1, h2⟩ | ⟨g, c, h1, _⟩
  · cases h1; rw [h2]; rfl
  · cases h1; rfl
theorem OI.fr {g cap n : Nat} (h : OI W B (.slice (some ⟨g, 0, none⟩) n cap) l) (j : Nat) : W.frozen? ⟨g, j, none⟩ = false := by
  have hn := h.len
  subst hn
  exact World.ownsRow.frozenAt h j
theorem ic_set (l : List Int) (i : Nat) (x : Int) : (ic l).set i (.int .i64 x) = ic (l.set i x) := by unfold ic; rw [List.map_set]
/-- a number is written -/
theorem OI.put {g cap n : Nat} (h : OI W B (.slice (some ⟨g, 0, none⟩) n cap) l) (i : Nat) (x : Int) : OI (W.setCell ⟨g, i, none⟩ (.int .i64 x)) B (.slice (some ⟨g, 0, none⟩) n cap) (l.set i x) := by
  have hn := h.len
  subst hn
  have := (World.ownsRow.stored h i (.int .i64 x)).1
  rw [ic_set] at this
  unfold OI
  rw [List.length_set]
  exact this
/-- a slice of numbers that was just typed -/
theorem OI.lit (W : World) (l : List Int) (hB : B ≤ W.heap.size) (hm : l.length ≤ maxLen) : OI (W.alloc (.cells (ic l).toArray 3)) B (.slice (some ⟨W.heap.size, 0, none⟩) l.length l.length) l := by
  have := World.ownsRow_lit (e := 3) (size := 1) W (ic l).toArray l.length hB hm (by simp [ic_length])
  simpa [OI] using this
/-- the last one is taken out -/
theorem OI.drop {g cap n k : Nat} {x : Int} (h : OI W B (.slice (some ⟨g, 0, none⟩) n cap) (l ++ [x])) (hk : k = l.length) : OI W B (.slice (some ⟨g, 0, none⟩) k cap) l := by
  subst hk
  obtain ⟨h1, h2⟩ := h
  refine ⟨by rw [ic_length, Nat.mul_one], ?_⟩
  rcases h2 with ⟨h2, _⟩ | ⟨g', cap', cur, hv, hb, hg, hc, hm, hs, ht⟩
  · cases h2
  · cases hv
    rw [List.length_append] at hc ht
    simp only [List.length_cons, List.length_nil] at hc ht
    refine .inr ⟨g, cap, cur, rfl, hb, hg, by omega, hm, hs, ?_⟩
    rw [ic_append] at ht
    have h3 := congrArg (List.take l.length) ht
    rw [List.take_take, List.take_left' (by rw [ic_length])] at h3
    rw [Nat.mul_one]
    rwa [show min l.length ((l.length + (0 + 1)) * 1) = l.length by omega] at h3
end
theorem infoI : (Try.prog.info? 3).map (fun i => (i.zero, i.size, i.bytes)) = some (some (.int .i64 0), 1, 8) := by kernel_rfl

end Go.Proofs.Ytkcppidmbojglag

/- A list is put behind a row of numbers. -/
namespace Go.Proofs.Ytkcppidmbojglag
open Go.RowKit

/-- a list is put behind a row of numbers -/
theorem wpList_appendRI {ops : Array Oper} {rest : List Oper} {o : Oper} {a : Act} {w : World} {Q : Exit → Act → World → Prop} (hgd : o.guard = none) (s x : Operand)
    (ho : o.op = .call { callee := .builtin .append, args := #[s, x], argTypes := #[36, 36] })
    (B : Nat) (v u : Value) (l m : List Int) (D : Nat → Prop) (hs : a.eval s = v) (hown : OI w B v l) (hx : a.eval x = u) (hr : RI D w u m)
    (h63 : l.length + m.length ≤ 1000000) (hB : B ≤ w.heap.size)
    (h : ∀ v' w', OI w' B v' (l ++ m) → w.grownBy w' v.ownBlock → wpList Try.prog ops Q rest (a.put o.dst v') w') : wpList Try.prog ops Q (o :: rest) a w := by
  obtain ⟨ao, cap, rfl, hc, hn⟩ := hr.form
  obtain ⟨i0, hi, hz0, hz1, hz2⟩ := info_parts infoI
  cases ao with
  | none =>
    obtain rfl : cap = 0 := hn rfl
    obtain rfl : m = [] := List.length_eq_zero_iff.1 (by omega)
    refine wpList_append_own_none hgd s x 36 ho B 3 i0 1 Try.underlying36 hi v l.length (ic l) hs hown (by rw [hx]; rfl) ?_
    refine h v w ?_ (World.grownBy.refl w _)
    rw [List.append_nil]; exact hown
  | some ad =>
    refine wpList_append_own w hgd s x 36 ho B 3 i0 _ 1 8 Try.underlying36 hi hz0 hz1 hz2 rfl (by decide) v l.length (ic l) hs hown ad m.length cap (ic m) hx (by rw [ic_length, Nat.mul_one]) ?_ (ic_one m) (by unfold maxLen; omega) (by omega) hB ?_
    · intro j u hj
      obtain ⟨y, hy, rfl⟩ := ic_get hj
      obtain ⟨g, o', e, hc'⟩ := hr.at hy
      cases e
      rw [Addr.add_mid]; exact hc'
    · intro v' w' h1 h2 _
      refine h v' w' ?_ h2
      unfold OI
      rw [List.length_append, ic_append]
      exact h1
theorem grown_none {w w' : World} (h : w.grownBy w' none) : Below w.heap.size w w' := ⟨h.os, h.tape, h.output, h.size, fun k hk => h.block k hk (fun e => by cases e)⟩
theorem own_some {g n c q : Nat} (h : (Value.slice (some ⟨g, 0, none⟩) n c).ownBlock = some q) : g = q := by simpa [Value.ownBlock] using h

end Go.Proofs.Ytkcppidmbojglag

/- Rows of pairs that are owned: cars, wants. -/
namespace Go.Proofs.Ytkcppidmbojglag
open Go.RowKit

/-- the cells of pairs -/
def pc (l : List (Int × Int)) : List Value := l.flatMap fun y => [.int .i64 y.1, .int .i64 y.2]
theorem pc_nil : pc [] = [] := rfl
theorem pc_cons (y : Int × Int) (l : List (Int × Int)) : pc (y :: l) = .int .i64 y.1 :: .int .i64 y.2 :: pc l := rfl
theorem pc_length : ∀ (l : List (Int × Int)), (pc l).length = l.length * 2
  | [] => rfl
  | y :: l => by rw [pc_cons, List.length_cons, List.length_cons, pc_length l, List.length_cons]; omega
theorem pc_append (l m : List (Int × Int)) : pc (l ++ m) = pc l ++ pc m := by unfold pc; rw [List.flatMap_append]
theorem pc_one (l : List (Int × Int)) : ∀ u ∈ pc l, u.oneCell' = true := fun u hu => by
  obtain ⟨y, _, h⟩ := List.mem_flatMap.1 hu
  simp at h
  rcases h with rfl | rfl <;> rfl
theorem pc_get0 {y : Int × Int} : ∀ {l : List (Int × Int)} {i : Nat}, l[i]? = some y → (pc l)[i * 2]? = some (.int .i64 y.1)
  | [], _, h => by simp at h
  | z :: l, 0, h => by simp at h; subst h; rfl
  | z :: l, i + 1, h => by
    rw [pc_cons, show (i + 1) * 2 = i * 2 + 1 + 1 by omega, List.getElem?_cons_succ, List.getElem?_cons_succ]
    exact pc_get0 (by simpa using h)
theorem pc_get1 {y : Int × Int} : ∀ {l : List (Int × Int)} {i : Nat}, l[i]? = some y → (pc l)[i * 2 + 1]? = some (.int .i64 y.2)
  | [], _, h => by simp at h
  | z :: l, 0, h => by simp at h; subst h; rfl
  | z :: l, i + 1, h => by
    rw [pc_cons, show (i + 1) * 2 + 1 = (i * 2 + 1) + 1 + 1 by omega, List.getElem?_cons_succ, List.getElem?_cons_succ]
    exact pc_get1 (by simpa using h)
theorem pc_set1 {y : Int × Int} {x : Int} : ∀ {l : List (Int × Int)} {i : Nat}, l[i]? = some y → (pc l).set (i * 2 + 1) (.int .i64 x) = pc (l.set i (y.1, x))
  | [], _, h => by simp at h
  | z :: l, 0, h => by simp at h; subst h; rfl
  | z :: l, i + 1, h => by
    rw [pc_cons, show (i + 1) * 2 + 1 = (i * 2 + 1) + 1 + 1 by omega, List.set_cons_succ, List.set_cons_succ, pc_set1 (by simpa using h), List.set_cons_succ, pc_cons]
/-- a slice of pairs that reads as l at each of its cells -/
theorem R2.cells {D : Nat → Prop} {W : World} {ad : Addr} {n cap : Nat} {l : List (Int × Int)} (h : R2 D W (.slice (some ad) n cap) l) : ∀ (j : Nat) u, (pc l)[j]? = some u → W.cell? (ad.add j) = some u := fun j u hu => by
  have hj : j < l.length * 2 := by have := (List.getElem?_eq_some_iff.1 hu).1; rwa [pc_length] at this
  obtain ⟨y, hy⟩ : ∃ y, l[j / 2]? = some y := ⟨_, List.getElem?_eq_getElem (by omega)⟩
  obtain ⟨g, o, e, h1, h2⟩ := h.at hy
  cases e
  rw [Addr.add_mid]
  by_cases hm : j % 2 = 0
  · have e1 : j / 2 * 2 = j := by omega
    have := pc_get0 hy
    rw [e1, hu] at this
    cases this
    rw [e1] at h1; exact h1
  · have e1 : j / 2 * 2 + 1 = j := by omega
    have := pc_get1 hy
    rw [e1, hu] at this
    cases this
    rw [Nat.add_assoc, e1] at h2; exact h2
/-- a row of pairs that is owned -/
def O2 (t : TypeId) (W : World) (B : Nat) (v : Value) (l : List (Int × Int)) : Prop := W.ownsRow B t 2 v l.length (pc l)
section
variable {t : TypeId} {W W' : World} {B : Nat} {v : Value} {l : List (Int × Int)}
theorem O2.lt (h : O2 t W B v l) : ∀ g, v.ownBlock = some g → B ≤ g ∧ g < W.heap.size := World.ownsRow.lt h
theorem O2.keep (h : O2 t W B v l) (hk : ∀ g, v.ownBlock = some g → W'.heap[g]? = W.heap[g]?) : O2 t W' B v l := by
  refine ⟨h.1, ?_⟩
  rcases h.2 with h1 | ⟨g, cap, cur, hv, hb, hg, hc⟩
  · exact .inl h1
  · exact .inr ⟨g, cap, cur, hv, hb, (hk g (by rw [hv]; rfl)).trans hg, hc⟩
theorem O2.below' (h : O2 t W B v l) (hb : Below W.heap.size W W') : O2 t W' B v l := h.keep fun g hg => hb.block g (h.lt g hg).2
theorem O2.form (h : O2 t W B v l) : (v = .slice none 0 0 ∧ l = []) ∨ ∃ g cap, v = .slice (some ⟨g, 0, none⟩) l.length cap ∧ B ≤ g ∧ g < W.heap.size ∧ l.length ≤ cap := by
  rcases h.2 with ⟨h1, h2⟩ | ⟨g, cap, cur, hv, hb, hg, hc, _⟩
  · exact .inl ⟨h1, List.length_eq_zero_iff.1 h2⟩
  · exact .inr ⟨g, cap, hv, hb, (Array.getElem?_eq_some_iff.1 hg).1, hc⟩
theorem O2.cell0 {g cap n i : Nat} {y : Int × Int} (h : O2 t W B (.slice (some ⟨g, 0, none⟩) n cap) l) (hi : l[i]? = some y) : W.cell? ⟨g, i * 2, none⟩ = some (.int .i64 y.1) := by
  have := World.ownsRow.cells h (g := g) rfl _ _ (pc_get0 hi)
  rwa [Addr.add_mid, Nat.zero_add] at this
theorem O2.cell1 {g cap n i : Nat} {y : Int × Int} (h : O2 t W B (.slice (some ⟨g, 0, none⟩) n cap) l) (hi : l[i]? = some y) : W.cell? ⟨g, i * 2 + 1, none⟩ = some (.int .i64 y.2) := by
  have := World.ownsRow.cells h (g := g) rfl _ _ (pc_get1 hi)
  rwa [Addr.add_mid, Nat.zero_add] at this
theorem O2.r2 {D : Nat → Prop} (h : O2 t W B v l) (hD : ∀ g, v.ownBlock = some g → D g) : R2 D W v l := by
  rcases h.form with ⟨rfl, rfl⟩ | ⟨g, cap, rfl, hB, hlt, hc⟩
  · exact ⟨none, 0, rfl, Nat.le_refl _, fun _ => rfl, .inl rfl⟩
  · exact ⟨_, cap, rfl, hc, (fun e => by cases e), .inr ⟨g, 0, rfl, hD g rfl, hlt, fun i y hy => ⟨by rw [Nat.zero_add]; exact h.cell0 hy, by rw [Nat.zero_add]; exact h.cell1 hy⟩⟩⟩
theorem O2.len {a : Option Addr} {n cap : Nat} (h : O2 t W B (.slice a n cap) l) : n = l.length := by
  rcases h.form with ⟨h1, h2⟩ | ⟨g, c, h1, _⟩
  · cases h1; rw [h2]; rfl
  · cases h1; rfl
theorem O2.fr {g cap n : Nat} (h : O2 t W B (.slice (some ⟨g, 0, none⟩) n cap) l) (j : Nat) : W.frozen? ⟨g, j, none⟩ = false := by
  have hn := h.len
  subst hn
  exact World.ownsRow.frozenAt h j
/-- a second number is written -/
theorem O2.put1 {g cap n i : Nat} {y : Int × Int} (h : O2 t W B (.slice (some ⟨g, 0, none⟩) n cap) l) (hi : l[i]? = some y) (x : Int) : O2 t (W.setCell ⟨g, i * 2 + 1, none⟩ (.int .i64 x)) B (.slice (some ⟨g, 0, none⟩) n cap) (l.set i (y.1, x)) := by
  have hn := h.len
  subst hn
  have := (World.ownsRow.stored h (i * 2 + 1) (.int .i64 x)).1
  rw [pc_set1 hi] at this
  unfold O2
  rw [List.length_set]
  exact this
theorem O2.nil (W : World) (hB : B ≤ W.heap.size) : O2 t (W.alloc (.cells #[] t)) B (.slice (some ⟨W.heap.size, 0, none⟩) 0 0) [] :=
  World.ownsRow_lit (e := t) (size := 2) W #[] 0 hB (by unfold maxLen; omega) (by simp)
theorem O2.some (h : O2 t W B v l) (hn : 0 < l.length) : ∃ g cap, v = .slice (some ⟨g, 0, none⟩) l.length cap ∧ B ≤ g := by
  rcases h.form with ⟨_, e⟩ | ⟨g, cap, hv, hB, _⟩
  · rw [e] at hn; simp at hn
  · exact ⟨g, cap, hv, hB⟩
end
/-- pairs are put behind a row of pairs -/
theorem wpList_append2 {ops : Array Oper} {rest : List Oper} {o : Oper} {a : Act} {w : World} {Q : Exit → Act → World → Prop} (e t : TypeId) (ht : Try.prog.underlying t = some (.slice e))
    (hinfo : (Try.prog.info? e).map (fun i => (i.zero, i.size, i.bytes)) = some (some (.agg #[.int .i64 0, .int .i64 0]), 2, 16)) (hgd : o.guard = none) (s x : Operand)
    (ho : o.op = .call { callee := .builtin .append, args := #[s, x], argTypes := #[t, t] })
    (B : Nat) (v u : Value) (l m : List (Int × Int)) (D : Nat → Prop) (hs : a.eval s = v) (hown : O2 e w B v l) (hx : a.eval x = u) (hr : R2 D w u m)
    (h63 : l.length + m.length ≤ 1000000) (hB : B ≤ w.heap.size)
    (h : ∀ v' w', O2 e w' B v' (l ++ m) → w.grownBy w' v.ownBlock → wpList Try.prog ops Q rest (a.put o.dst v') w') : wpList Try.prog ops Q (o :: rest) a w := by
  obtain ⟨ao, cap, rfl, hc, hn⟩ := hr.form
  obtain ⟨i0, hi, hz⟩ := Option.map_eq_some_iff.1 hinfo
  simp only [Prod.mk.injEq] at hz
  obtain ⟨hz0, hz1, hz2⟩ := hz
  cases ao with
  | none =>
    obtain rfl : cap = 0 := hn rfl
    obtain rfl : m = [] := List.length_eq_zero_iff.1 (by omega)
    refine wpList_append_own_none hgd s x t ho B e i0 2 ht hi v l.length (pc l) hs hown (by rw [hx]; rfl) ?_
    refine h v w ?_ (World.grownBy.refl w _)
    rw [List.append_nil]; exact hown
  | some ad =>
    refine wpList_append_own w hgd s x t ho B e i0 _ 2 16 ht hi hz0 hz1 hz2 rfl (by decide) v l.length (pc l) hs hown ad m.length cap (pc m) hx (pc_length m) hr.cells (pc_one m) (by unfold maxLen; omega) (by omega) hB ?_
    intro v' w' h1 h2 _
    refine h v' w' ?_ h2
    unfold O2
    rw [List.length_append, pc_append]
    exact h1

end Go.Proofs.Ytkcppidmbojglag

/-
  A RANGE OVER A FUNCTION THAT KEEPS MEMORY OF ITS OWN BETWEEN THE ROUNDS, and writes it: which blocks these are grows as it goes on (F).
  The caller's invariant speaks of none of them (Stb); a round leaves them as they are (Kept). No program is named here.
-/
namespace Go.Proofs.Ytkcppidmbojglag
open Go.RowKit

/-- what is written in F, and what is new, isn't minded -/
def Stb {β : Type} (J : β → (Nat → Prop) → World → Prop) : Prop := ∀ s F F' W W', J s F W → Kp F W W' → (∀ k, F' k → F k ∨ (W.heap.size ≤ k ∧ k < W'.heap.size)) → J s F' W'
/-- these blocks are kept -/
structure Kept (F : Nat → Prop) (W W' : World) : Prop where
  size : W.heap.size ≤ W'.heap.size
  same : ∀ k, k < W.heap.size → F k → W'.heap[k]? = W.heap[k]?
theorem Kept.refl (F : Nat → Prop) (W : World) : Kept F W W := ⟨Nat.le_refl _, fun _ _ _ => rfl⟩
theorem Kept.trans {F : Nat → Prop} {A B C : World} (h : Kept F A B) (k : Kept F B C) : Kept F A C := ⟨Nat.le_trans h.size k.size, fun i hi hf => (k.same i (Nat.lt_of_lt_of_le hi h.size) hf).trans (h.same i hi hf)⟩
theorem Kept.mono {F G : Nat → Prop} {A B : World} (h : Kept F A B) (hg : ∀ k, k < A.heap.size → G k → F k) : Kept G A B := ⟨h.size, fun i hi hf => h.same i hi (hg i hi hf)⟩
theorem Kept.ofKp {F G : Nat → Prop} {A B : World} (h : Kp G A B) (hf : ∀ k, k < A.heap.size → F k → ¬ G k) : Kept F A B := ⟨h.size, fun i hi hF => h.block i hi (hf i hi hF)⟩
theorem Kept.ofBelow {F : Nat → Prop} {A B : World} (h : Below A.heap.size A B) : Kept F A B := ⟨h.size, fun i hi _ => h.block i hi⟩

theorem room_wide' (k : Nat) : Fence.wide.room k := room_wide k
/-- how deep doesn't matter -/
theorem YieldAt.deep {m : Nat} (m' : Nat) {P : Program} {l : Nat} {args : Array Value} {W : World} {R : Ending → World → Prop} (h : YieldAt Fence.wide m P l args W R) : YieldAt Fence.wide m' P l args W R := by
  obtain ⟨fn, tmps, assign, body, hy, hR⟩ := h
  exact ⟨fn, tmps, assign, body, hy, hR.1, fun c cs _ => hR.2 c cs (room_wide _)⟩

/-- what such a function does; Enc: what it hands out; G: what it reads besides -/
def SeqF {α : Type} (P : Program) (g : Nat) (lb : Array Value) (Enc : α → (Nat → Prop) → World → Array Value → Prop) (F0 G : Nat → Prop) (S Sp : List α → Prop) (w : World) : Prop :=
  ∀ (n l : Nat) (J Jx : List α → (Nat → Prop) → World → Prop) (W : World), Below w.heap.size w W → Stb J → Stb Jx →
    (∀ m pre x F W1 args, J pre F W1 → Enc x F W1 args → YieldAt Fence.wide m P l args W1 fun e W' =>
      (e = .returned (.bool true) ∧ J (pre ++ [x]) F W' ∧ Kept (fun k => F k ∨ G k) W1 W') ∨ (e = .returned (.bool false) ∧ Jx (pre ++ [x]) F W' ∧ Kept F W1 W')) →
    J [] F0 W →
    CallsIn Fence.wide n P g (#[.func (.yield l) #[] #[]] ++ lb) W fun e W' => (∃ v, e = .returned v) ∧ ((∃ xs F, S xs ∧ J xs F W') ∨ (∃ pre F, Sp pre ∧ Jx pre F W'))

/-- how a round's body may be left -/
def postF {α : Type} (G : Nat → Prop) (I : List α → (Nat → Prop) → World → Prop) (Ix : Code → List α → (Nat → Prop) → World → Prop) (xs : List α) (F : Nat → Prop) (W : World) : Exit → Act → World → Prop
  | .normal, _, W' => Kept (fun k => F k ∨ G k) W W' ∧ I xs F W'
  | .ret, _, W' => Kept F W W' ∧ Ix .ret xs F W'
  | .exit id, _, W' => Kept F W W' ∧ Ix (.exit id) xs F W'
  | .goto t, _, W' => Kept F W W' ∧ Ix (.goto t) xs F W'
  | .panic _, _, _ => False
  | .outgrown, _, _ => False

/-- a block that holds no cells is turned -/
theorem Stb.put {β : Type} {J : β → (Nat → Prop) → World → Prop} (h : Stb J) {s : β} {F : Nat → Prop} {W : World} (l : Nat) (o : Obj) (hj : J s F W) (hl : F l) : J s F (W.putObj l o) :=
  h s F F W _ hj ((Kp.refl F W).put l o (fun _ => hl)) (fun _ h => .inl h)

theorem wpIn_rangeFunc_F {α : Type} {n : Nat} {P : Program} {g : Operand} {ps : Array Tmp} {assign body : Code} {Q : Exit → Act → World → Prop} {a : Act} {w : World}
    {gf : Nat} {lb : Array Value} (hg : a.eval g = .func (.func gf) #[] lb) (eg : ∀ args w, (callFunc gf args).run P w = .ok (.enter gf args) w)
    {Enc : α → (Nat → Prop) → World → Array Value → Prop} {F0 G : Nat → Prop} {S Sp : List α → Prop} {w0 : World} (hseq : SeqF P gf lb Enc F0 G S Sp w0) (hb0 : Below w0.heap.size w0 w)
    (hps : ∀ x F W args, Enc x F W args → args.size = ps.size) (hG : ∀ k, G k → k < w.heap.size) (hF0 : ∀ k, F0 k → k < w.heap.size)
    (hE : ∀ x F F' W W' args, Enc x F W args → W.heap.size ≤ W'.heap.size → (∀ k, F k → F' k) → (∀ k, F' k → F k ∨ ∃ o : Obj, W.heap[k]? = some o ∧ o.isCells = false) → (∀ k, k < W.heap.size → (∃ o : Obj, W.heap[k]? = some o ∧ o.isCells = true) → W'.heap[k]? = W.heap[k]?) → Enc x F' W' args)
    (I : List α → (Nat → Prop) → World → Prop) (Ix : Code → List α → (Nat → Prop) → World → Prop) (hI : Stb I) (hIx : ∀ c, Stb (Ix c)) (h0 : I [] F0 w) (a₁ : Array Value → Act)
    (hassign : ∀ (l : Nat) (args : Array Value) (W : World) (K : Act → World → Prop), args.size = ps.size → K (a₁ args) W →
      assign.wpIn (Fence.wide.inRound l) n P (Exit.then K (fun _ _ _ => False)) { tmps := (ps.zip args).foldl (fun t (p, v) => t.setIfInBounds p v) a.tmps, defers := [] } W)
    (hbody : ∀ (l : Nat) (pre : List α) (x : α) (F : Nat → Prop) (W : World) (args : Array Value), I pre F W → Enc x F W args → body.wpIn (Fence.wide.inRound l) n P (postF G I Ix (pre ++ [x]) F W) (a₁ args) W)
    (hdone : ∀ (D : Nat) (xs : List α) (F : Nat → Prop) (W : World), w.heap.size ≤ D → F D → S xs → I xs F W → W.heap[D]? = some (.deferred (some [])) → Q .normal { a with defers := { target := .collected D, args := #[] } :: a.defers } W)
    (hstop : ∀ (D : Nat) (c : Code) (pre : List α) (F : Nat → Prop) (W : World), w.heap.size ≤ D → F D → Sp pre → Ix c pre F W → W.heap[D]? = some (.deferred (some [])) → c.wpIn Fence.wide n P Q { a with defers := { target := .collected D, args := #[] } :: a.defers } W) :
    (Code.rangeFunc g ps assign body).wpIn Fence.wide n P Q a w := by
  refine wpIn_rangeFunc ?_
  intro fn hfn
  rw [show Fence.wide.round = none from rfl]
  obtain ⟨rec, hrec⟩ : ∃ rec : LoopState → Option Code → Loop, rec = fun st pe => { state := st, pending := pe, fn, tmps := a.tmps, params := ps, assign, body, defers := w.heap.size } := ⟨_, rfl⟩
  obtain ⟨W1, hW1⟩ : ∃ W1, (w.alloc (.deferred (some []))).alloc (.loop (rec .ready none)) = W1 := ⟨_, rfl⟩
  generalize hD : w.heap.size = D at *
  have hL1 : W1.heap[D + 1]? = some (.loop (rec .ready none)) := by
    rw [← hW1, ← hD]; have := World.alloc_heap_new (w.alloc (.deferred (some []))) (.loop (rec .ready none)); rwa [World.size_alloc] at this
  have hK1 : W1.heap[D]? = some (.deferred (some [])) := by
    rw [← hW1, ← hD]; exact (Below.heap_alloc _ _ _ (by simp)).trans (World.alloc_heap_new w _)
  have hbel : Below w.heap.size w W1 := by rw [← hW1]; exact ((Below.refl _ w).alloc (Nat.le_refl _) _).alloc (by simp) _
  -- the two blocks of the loop are the iterator's, as the caller sees it
  obtain ⟨U, hU⟩ : ∃ U : (Nat → Prop) → Nat → Prop, U = fun F k => F k ∨ k = D ∨ k = D + 1 := ⟨_, rfl⟩
  have hUF : ∀ F k, F k → U F k := fun F k h => by rw [hU]; exact .inl h
  have hU1 : ∀ F, U F (D + 1) := fun F => by rw [hU]; exact .inr (.inr rfl)
  have hU0 : ∀ F, U F D := fun F => by rw [hU]; exact .inr (.inl rfl)
  refine ⟨D + 1, [{ target := .collected D, args := #[] }], W1, { target := .fn (.func gf) lb, args := #[.func (.yield (D + 1)) #[] #[]] }, W1, gf, #[.func (.yield (D + 1)) #[] #[]] ++ lb, W1, ?_, ?_, fun _ _ => trivial, ?_, fun h => (by cases h), ?_⟩
  · rw [← hW1, hrec, ← hD]; exact run_enterLoop_outer _ _ _ _ _
  · simp only [resolve, hg]
    simp [go_sem]
  · simp [invoke, go_sem, eg]
  have stab : ∀ {β : Type} (X : β → (Nat → Prop) → World → Prop) (o : β → Obj), Stb X → Stb (fun s F W => X s (U F) W ∧ W.heap[D + 1]? = some (o s) ∧ W.heap[D]? = some (.deferred (some [])) ∧ ¬ F (D + 1) ∧ ¬ F D) := by
    intro β X o hX s F F' A B h hk hF
    obtain ⟨h1, h2, h3, h4, h5⟩ := h
    have l2 := (Array.getElem?_eq_some_iff.1 h2).1
    have l3 := (Array.getElem?_eq_some_iff.1 h3).1
    refine ⟨hX s (U F) (U F') A B h1 (hk.mono fun i _ hi => hUF F i hi) (fun k hk' => ?_), (hk.block _ l2 h4).trans h2, (hk.block _ l3 h5).trans h3, fun h => ?_, fun h => ?_⟩
    · rw [hU] at hk' ⊢
      rcases hk' with e | e | e
      · rcases hF k e with e | e
        · exact .inl (.inl e)
        · exact .inr e
      · exact .inl (.inr (.inl e))
      · exact .inl (.inr (.inr e))
    · rcases hF _ h with e | e
      · exact h4 e
      · omega
    · rcases hF _ h with e | e
      · exact h5 e
      · omega
  refine (hseq (n - 1) (D + 1)
    (fun pre F W => I pre (U F) W ∧ W.heap[D + 1]? = some (.loop (rec .ready none)) ∧ W.heap[D]? = some (.deferred (some [])) ∧ ¬ F (D + 1) ∧ ¬ F D)
    (fun pre F W => ∃ c, Ix c pre (U F) W ∧ W.heap[D + 1]? = some (.loop (rec .done (some c))) ∧ W.heap[D]? = some (.deferred (some [])) ∧ ¬ F (D + 1) ∧ ¬ F D)
    W1 (hb0.trans (hbel.mono hb0.size)) (stab I (fun _ => .loop (rec .ready none)) hI) ?_ ?_ ?_).mono ?_
  · intro s F F' A B h hk hF
    obtain ⟨c, h⟩ := h
    exact ⟨c, stab (Ix c) (fun _ => .loop (rec .done (some c))) (hIx c) s F F' A B h hk hF⟩
  · -- a round
    rintro m pre x F W args ⟨hi, hl, hk, hf1, hf0⟩ henc
    have hlt : D + 1 < W.heap.size := (Array.getElem?_eq_some_iff.1 hl).1
    have hsz := hps x F W args henc
    have hy := run_yield (P := P) (args := args) hl (by rw [hrec]; exact hsz)
    rw [hrec] at hy
    refine YieldAt.deep (m := n) m ⟨fn, _, assign, body, hy, roundIn_of_wpIn hfn (hassign (D + 1) args W _ hsz ?_)⟩
    clear hy
    refine ⟨_, run_beginRound hl (by rw [hrec]), ?_⟩
    obtain ⟨W2, hW2⟩ : ∃ W2, W.putObj (D + 1) (.loop { rec .ready none with state := .busy }) = W2 := ⟨_, rfl⟩
    rw [hW2]
    have hz2 : W2.heap.size = W.heap.size := by rw [← hW2]; simp
    have ho2 : ∀ k, k ≠ D + 1 → W2.heap[k]? = W.heap[k]? := fun k hk => by rw [← hW2]; exact World.putObj_heap_other hk
    have hl2 : W2.heap[D + 1]? = some (.loop { rec .ready none with state := .busy }) := by rw [← hW2]; exact World.putObj_heap_same hlt
    have hi2 : I pre (U F) W2 := by rw [← hW2]; exact hI.put _ _ hi (hU1 F)
    have he2 : Enc x (U F) W2 args := hE x F (U F) W W2 args henc (by omega) (hUF F) (fun k h => by
        rw [hU] at h
        rcases h with h | h | h
        · exact .inl h
        · subst h; exact .inr ⟨_, hk, rfl⟩
        · subst h; exact .inr ⟨_, hl, rfl⟩) (fun k _ h => ho2 k (fun e => by
        subst e
        obtain ⟨o, h1, h2⟩ := h
        rw [hl] at h1
        cases h1
        cases h2))
    refine wpIn_mono (hbody (D + 1) pre x (U F) W2 args hi2 he2) ?_
    have fin : ∀ (jump : Option Code) (W3 : World), Kept (U F) W2 W3 →
        (Instr.endRound (D + 1) jump).run P W3 = .ok (.bool jump.isNone) (W3.putObj (D + 1) (.loop (rec (if jump.isNone then .ready else .done) jump))) ∧
        (W3.putObj (D + 1) (.loop (rec (if jump.isNone then .ready else .done) jump))).heap[D + 1]? = some (.loop (rec (if jump.isNone then .ready else .done) jump)) ∧
        (W3.putObj (D + 1) (.loop (rec (if jump.isNone then .ready else .done) jump))).heap[D]? = some (.deferred (some [])) := fun jump W3 h3 => by
      have hl3 : W3.heap[D + 1]? = some (.loop { rec .ready none with state := .busy }) := (h3.same _ (by omega) (hU1 F)).trans hl2
      have hk3 : W3.heap[D]? = some (.deferred (some [])) := (h3.same _ (by omega) (hU0 F)).trans ((ho2 D (by omega)).trans hk)
      have := run_endRound (P := P) jump hl3
      rw [hrec] at this ⊢
      exact ⟨this, World.putObj_heap_same (Array.getElem?_eq_some_iff.1 hl3).1, (World.putObj_heap_other (by omega)).trans hk3⟩
    have keptF : ∀ (W3 : World) (o : Obj), Kept (U F) W2 W3 → Kept F W (W3.putObj (D + 1) o) := fun W3 o h3 => by
      have hz := h3.size
      refine ⟨by simp; omega, fun k hk' hfk => ?_⟩
      have hne : k ≠ D + 1 := fun e => by subst e; exact hf1 hfk
      rw [World.putObj_heap_other hne, h3.same k (by omega) (hUF F k hfk), ho2 k hne]
    rintro e a3 W3 hp
    cases e with
    | normal =>
      obtain ⟨h3, hi3⟩ := hp
      obtain ⟨hr, hl4, hk4⟩ := fin none W3 (h3.mono fun _ _ h => .inl h)
      refine ⟨_, _, hr, .inl ⟨rfl, ⟨hI.put _ _ hi3 (hU1 F), hl4, hk4, hf1, hf0⟩, ?_⟩⟩
      have hz := h3.size
      refine ⟨by simp; omega, fun k hk' hfk => ?_⟩
      have hne : k ≠ D + 1 := fun e => by
        subst e
        rcases hfk with h | h
        · exact hf1 h
        · have := hG _ h; omega
      rw [World.putObj_heap_other hne, h3.same k (by omega) (hfk.elim (fun h => .inl (hUF F k h)) .inr), ho2 k hne]
    | ret =>
      obtain ⟨h3, hi3⟩ := hp
      obtain ⟨hr, hl4, hk4⟩ := fin (some .ret) W3 h3
      exact ⟨_, _, hr, .inr ⟨rfl, ⟨.ret, (hIx _).put _ _ hi3 (hU1 F), hl4, hk4, hf1, hf0⟩, keptF W3 _ h3⟩⟩
    | exit id =>
      obtain ⟨h3, hi3⟩ := hp
      obtain ⟨hr, hl4, hk4⟩ := fin (some (.exit id)) W3 h3
      exact ⟨_, _, hr, .inr ⟨rfl, ⟨.exit id, (hIx _).put _ _ hi3 (hU1 F), hl4, hk4, hf1, hf0⟩, keptF W3 _ h3⟩⟩
    | goto t =>
      obtain ⟨h3, hi3⟩ := hp
      obtain ⟨hr, hl4, hk4⟩ := fin (some (.goto t)) W3 h3
      exact ⟨_, _, hr, .inr ⟨rfl, ⟨.goto t, (hIx _).put _ _ hi3 (hU1 F), hl4, hk4, hf1, hf0⟩, keptF W3 _ h3⟩⟩
    | panic ch => exact hp.elim
    | outgrown => exact hp.elim
  · have z1 := (Array.getElem?_eq_some_iff.1 hL1).1
    refine ⟨hI [] F0 _ w W1 h0 (Kp.ofBelow _ hbel) (fun k h => ?_), hL1, hK1, fun h => by have := hF0 _ h; omega, fun h => by have := hF0 _ h; omega⟩
    rw [hU] at h
    rcases h with h | h | h
    · exact .inl h
    · right; omega
    · right; omega
  · -- behind the iterator
    rintro e W2 ⟨⟨v, rfl⟩, (⟨xs, F, hS, hi, hl, hk, _, _⟩ | ⟨pre, F, hSp, c, hi, hl, hk, _, _⟩)⟩
    · exact ⟨none, _, by have := run_endLoop (P := P) hl (by rw [hrec]; simp); rw [hrec] at this; exact this, hdone D xs (U F) _ (Nat.le_refl _) (hU0 F) hS (hI.put _ _ hi (hU1 F)) ((World.putObj_heap_other (by omega)).trans hk)⟩
    · exact ⟨some c, _, by have := run_endLoop (P := P) hl (by rw [hrec]; simp); rw [hrec] at this; exact this, hstop D c pre (U F) _ (Nat.le_refl _) (hU0 F) hSp ((hIx c).put _ _ hi (hU1 F)) ((World.putObj_heap_other (by omega)).trans hk)⟩

end Go.Proofs.Ytkcppidmbojglag

/-
  A range over a function that keeps memory of its own between the rounds, where the round's variables lie in memory (RgF's law, with what is assigned to them).
  No program is named here.
-/
namespace Go.Proofs.Ytkcppidmbojglag
open Go.RowKit

/-- what a loop keeps: all that lay there but P; nothing of it is the iterator's -/
def KB (Wz : World) (P F : Nat → Prop) (A : World) : Prop := Kp P Wz A ∧ ∀ k, k < Wz.heap.size → ¬ F k
theorem KB.stb {Wz : World} {P F F' : Nat → Prop} {A B : World} (h : KB Wz P F A) (hk : Kp F A B) (hF : ∀ k, F' k → F k ∨ (A.heap.size ≤ k ∧ k < B.heap.size)) : KB Wz P F' B :=
  ⟨h.1.trans hk (fun i hi hf => absurd hf (h.2 i hi)), fun k hk' hf => (hF k hf).elim (h.2 k hk') (fun e => by have := h.1.size; omega)⟩

theorem wpIn_rangeFunc_B {α : Type} {n : Nat} {P : Program} {g : Operand} {ps : Array Tmp} {assign body : Code} {Q : Exit → Act → World → Prop} {a : Act} {w : World}
    {gf : Nat} {lb : Array Value} (hg : a.eval g = .func (.func gf) #[] lb) (eg : ∀ args w, (callFunc gf args).run P w = .ok (.enter gf args) w)
    {Enc : α → (Nat → Prop) → World → Array Value → Prop} {F0 G : Nat → Prop} {S Sp : List α → Prop} {w0 : World} (hseq : SeqF P gf lb Enc F0 G S Sp w0) (hb0 : Below w0.heap.size w0 w)
    (hps : ∀ x F W args, Enc x F W args → args.size = ps.size) (hG : ∀ k, G k → k < w.heap.size) (hF0 : ∀ k, F0 k → k < w.heap.size)
    (I : List α → (Nat → Prop) → World → Prop) (Ix : Code → List α → (Nat → Prop) → World → Prop) (hI : Stb I) (hIx : ∀ c, Stb (Ix c)) (h0 : I [] F0 w) (B : α → Act → World → Prop)
    (hB : ∀ x a' W W', B x a' W → W.heap.size ≤ W'.heap.size → (∀ k, k < W.heap.size → (∃ o : Obj, W.heap[k]? = some o ∧ o.isCells = true) → W'.heap[k]? = W.heap[k]?) → B x a' W')
    (hassign : ∀ (l : Nat) (x : α) (F : Nat → Prop) (W : World) (args : Array Value) (K : Act → World → Prop), Enc x F W args → (∀ a' W', Below W.heap.size W W' → B x a' W' → K a' W') →
      assign.wpIn (Fence.wide.inRound l) n P (Exit.then K (fun _ _ _ => False)) { tmps := (ps.zip args).foldl (fun t (p, v) => t.setIfInBounds p v) a.tmps, defers := [] } W)
    (hbody : ∀ (l : Nat) (pre : List α) (x : α) (F : Nat → Prop) (W : World) (a' : Act), I pre F W → B x a' W → body.wpIn (Fence.wide.inRound l) n P (postF G I Ix (pre ++ [x]) F W) a' W)
    (hdone : ∀ (D : Nat) (xs : List α) (F : Nat → Prop) (W : World), w.heap.size ≤ D → F D → S xs → I xs F W → W.heap[D]? = some (.deferred (some [])) → Q .normal { a with defers := { target := .collected D, args := #[] } :: a.defers } W)
    (hstop : ∀ (D : Nat) (c : Code) (pre : List α) (F : Nat → Prop) (W : World), w.heap.size ≤ D → F D → Sp pre → Ix c pre F W → W.heap[D]? = some (.deferred (some [])) → c.wpIn Fence.wide n P Q { a with defers := { target := .collected D, args := #[] } :: a.defers } W) :
    (Code.rangeFunc g ps assign body).wpIn Fence.wide n P Q a w := by
  refine wpIn_rangeFunc ?_
  intro fn hfn
  rw [show Fence.wide.round = none from rfl]
  obtain ⟨rec, hrec⟩ : ∃ rec : LoopState → Option Code → Loop, rec = fun st pe => { state := st, pending := pe, fn, tmps := a.tmps, params := ps, assign, body, defers := w.heap.size } := ⟨_, rfl⟩
  obtain ⟨W1, hW1⟩ : ∃ W1, (w.alloc (.deferred (some []))).alloc (.loop (rec .ready none)) = W1 := ⟨_, rfl⟩
  generalize hD : w.heap.size = D at *
  have hL1 : W1.heap[D + 1]? = some (.loop (rec .ready none)) := by
    rw [← hW1, ← hD]; have := World.alloc_heap_new (w.alloc (.deferred (some []))) (.loop (rec .ready none)); rwa [World.size_alloc] at this
  have hK1 : W1.heap[D]? = some (.deferred (some [])) := by
    rw [← hW1, ← hD]; exact (Below.heap_alloc _ _ _ (by simp)).trans (World.alloc_heap_new w _)
  have hbel : Below w.heap.size w W1 := by rw [← hW1]; exact ((Below.refl _ w).alloc (Nat.le_refl _) _).alloc (by simp) _
  -- the two blocks of the loop are the iterator's, as the caller sees it
  obtain ⟨U, hU⟩ : ∃ U : (Nat → Prop) → Nat → Prop, U = fun F k => F k ∨ k = D ∨ k = D + 1 := ⟨_, rfl⟩
  have hUF : ∀ F k, F k → U F k := fun F k h => by rw [hU]; exact .inl h
  have hU1 : ∀ F, U F (D + 1) := fun F => by rw [hU]; exact .inr (.inr rfl)
  have hU0 : ∀ F, U F D := fun F => by rw [hU]; exact .inr (.inl rfl)
  refine ⟨D + 1, [{ target := .collected D, args := #[] }], W1, { target := .fn (.func gf) lb, args := #[.func (.yield (D + 1)) #[] #[]] }, W1, gf, #[.func (.yield (D + 1)) #[] #[]] ++ lb, W1, ?_, ?_, fun _ _ => trivial, ?_, fun h => (by cases h), ?_⟩
  · rw [← hW1, hrec, ← hD]; exact run_enterLoop_outer _ _ _ _ _
  · simp only [resolve, hg]
    simp [go_sem]
  · simp [invoke, go_sem, eg]
  have stab : ∀ {β : Type} (X : β → (Nat → Prop) → World → Prop) (o : β → Obj), Stb X → Stb (fun s F W => X s (U F) W ∧ W.heap[D + 1]? = some (o s) ∧ W.heap[D]? = some (.deferred (some [])) ∧ ¬ F (D + 1) ∧ ¬ F D) := by
    intro β X o hX s F F' A B h hk hF
    obtain ⟨h1, h2, h3, h4, h5⟩ := h
    have l2 := (Array.getElem?_eq_some_iff.1 h2).1
    have l3 := (Array.getElem?_eq_some_iff.1 h3).1
    refine ⟨hX s (U F) (U F') A B h1 (hk.mono fun i _ hi => hUF F i hi) (fun k hk' => ?_), (hk.block _ l2 h4).trans h2, (hk.block _ l3 h5).trans h3, fun h => ?_, fun h => ?_⟩
    · rw [hU] at hk' ⊢
      rcases hk' with e | e | e
      · rcases hF k e with e | e
        · exact .inl (.inl e)
        · exact .inr e
      · exact .inl (.inr (.inl e))
      · exact .inl (.inr (.inr e))
    · rcases hF _ h with e | e
      · exact h4 e
      · omega
    · rcases hF _ h with e | e
      · exact h5 e
      · omega
  refine (hseq (n - 1) (D + 1)
    (fun pre F W => I pre (U F) W ∧ W.heap[D + 1]? = some (.loop (rec .ready none)) ∧ W.heap[D]? = some (.deferred (some [])) ∧ ¬ F (D + 1) ∧ ¬ F D)
    (fun pre F W => ∃ c, Ix c pre (U F) W ∧ W.heap[D + 1]? = some (.loop (rec .done (some c))) ∧ W.heap[D]? = some (.deferred (some [])) ∧ ¬ F (D + 1) ∧ ¬ F D)
    W1 (hb0.trans (hbel.mono hb0.size)) (stab I (fun _ => .loop (rec .ready none)) hI) ?_ ?_ ?_).mono ?_
  · intro s F F' A B h hk hF
    obtain ⟨c, h⟩ := h
    exact ⟨c, stab (Ix c) (fun _ => .loop (rec .done (some c))) (hIx c) s F F' A B h hk hF⟩
  · -- a round
    rintro m pre x F W args ⟨hi, hl, hk, hf1, hf0⟩ henc
    have hlt : D + 1 < W.heap.size := (Array.getElem?_eq_some_iff.1 hl).1
    have hsz := hps x F W args henc
    have hy := run_yield (P := P) (args := args) hl (by rw [hrec]; exact hsz)
    rw [hrec] at hy
    refine YieldAt.deep (m := n) m ⟨fn, _, assign, body, hy, roundIn_of_wpIn hfn (hassign (D + 1) x F W args _ henc ?_)⟩
    clear hy
    intro a' Wa hba hBa
    have hza := hba.size
    have hla := (hba.block _ hlt).trans hl
    have hka := (hba.block _ (Array.getElem?_eq_some_iff.1 hk).1).trans hk
    have hlta : D + 1 < Wa.heap.size := (Array.getElem?_eq_some_iff.1 hla).1
    refine ⟨_, run_beginRound hla (by rw [hrec]), ?_⟩
    obtain ⟨W2, hW2⟩ : ∃ W2, Wa.putObj (D + 1) (.loop { rec .ready none with state := .busy }) = W2 := ⟨_, rfl⟩
    rw [hW2]
    have hz2 : W2.heap.size = Wa.heap.size := by rw [← hW2]; simp
    have ho2 : ∀ k, k ≠ D + 1 → W2.heap[k]? = Wa.heap[k]? := fun k hk => by rw [← hW2]; exact World.putObj_heap_other hk
    have hl2 : W2.heap[D + 1]? = some (.loop { rec .ready none with state := .busy }) := by rw [← hW2]; exact World.putObj_heap_same hlta
    have hia : I pre (U F) Wa := hI pre (U F) (U F) W Wa hi (Kp.ofBelow _ hba) (fun _ h => .inl h)
    have hi2 : I pre (U F) W2 := by rw [← hW2]; exact hI.put _ _ hia (hU1 F)
    have he2 : B x a' W2 := hB x a' Wa W2 hBa (by omega) (fun k _ h => ho2 k (fun e => by
        subst e
        obtain ⟨o, h1, h2⟩ := h
        rw [hla] at h1
        cases h1
        cases h2))
    refine wpIn_mono (hbody (D + 1) pre x (U F) W2 a' hi2 he2) ?_
    have fin : ∀ (jump : Option Code) (W3 : World), Kept (U F) W2 W3 →
        (Instr.endRound (D + 1) jump).run P W3 = .ok (.bool jump.isNone) (W3.putObj (D + 1) (.loop (rec (if jump.isNone then .ready else .done) jump))) ∧
        (W3.putObj (D + 1) (.loop (rec (if jump.isNone then .ready else .done) jump))).heap[D + 1]? = some (.loop (rec (if jump.isNone then .ready else .done) jump)) ∧
        (W3.putObj (D + 1) (.loop (rec (if jump.isNone then .ready else .done) jump))).heap[D]? = some (.deferred (some [])) := fun jump W3 h3 => by
      have hl3 : W3.heap[D + 1]? = some (.loop { rec .ready none with state := .busy }) := (h3.same _ (by omega) (hU1 F)).trans hl2
      have hk3 : W3.heap[D]? = some (.deferred (some [])) := (h3.same _ (by omega) (hU0 F)).trans ((ho2 D (by omega)).trans hka)
      have := run_endRound (P := P) jump hl3
      rw [hrec] at this ⊢
      exact ⟨this, World.putObj_heap_same (Array.getElem?_eq_some_iff.1 hl3).1, (World.putObj_heap_other (by omega)).trans hk3⟩
    have keptF : ∀ (W3 : World) (o : Obj), Kept (U F) W2 W3 → Kept F W (W3.putObj (D + 1) o) := fun W3 o h3 => by
      have hz := h3.size
      refine ⟨by simp; omega, fun k hk' hfk => ?_⟩
      have hne : k ≠ D + 1 := fun e => by subst e; exact hf1 hfk
      rw [World.putObj_heap_other hne, h3.same k (by omega) (hUF F k hfk), ho2 k hne, hba.block k hk']
    rintro e a3 W3 hp
    cases e with
    | normal =>
      obtain ⟨h3, hi3⟩ := hp
      obtain ⟨hr, hl4, hk4⟩ := fin none W3 (h3.mono fun _ _ h => .inl h)
      refine ⟨_, _, hr, .inl ⟨rfl, ⟨hI.put _ _ hi3 (hU1 F), hl4, hk4, hf1, hf0⟩, ?_⟩⟩
      have hz := h3.size
      refine ⟨by simp; omega, fun k hk' hfk => ?_⟩
      have hne : k ≠ D + 1 := fun e => by
        subst e
        rcases hfk with h | h
        · exact hf1 h
        · have := hG _ h; omega
      rw [World.putObj_heap_other hne, h3.same k (by omega) (hfk.elim (fun h => .inl (hUF F k h)) .inr), ho2 k hne, hba.block k hk']
    | ret =>
      obtain ⟨h3, hi3⟩ := hp
      obtain ⟨hr, hl4, hk4⟩ := fin (some .ret) W3 h3
      exact ⟨_, _, hr, .inr ⟨rfl, ⟨.ret, (hIx _).put _ _ hi3 (hU1 F), hl4, hk4, hf1, hf0⟩, keptF W3 _ h3⟩⟩
    | exit id =>
      obtain ⟨h3, hi3⟩ := hp
      obtain ⟨hr, hl4, hk4⟩ := fin (some (.exit id)) W3 h3
      exact ⟨_, _, hr, .inr ⟨rfl, ⟨.exit id, (hIx _).put _ _ hi3 (hU1 F), hl4, hk4, hf1, hf0⟩, keptF W3 _ h3⟩⟩
    | goto t =>
      obtain ⟨h3, hi3⟩ := hp
      obtain ⟨hr, hl4, hk4⟩ := fin (some (.goto t)) W3 h3
      exact ⟨_, _, hr, .inr ⟨rfl, ⟨.goto t, (hIx _).put _ _ hi3 (hU1 F), hl4, hk4, hf1, hf0⟩, keptF W3 _ h3⟩⟩
    | panic ch => exact hp.elim
    | outgrown => exact hp.elim
  · have z1 := (Array.getElem?_eq_some_iff.1 hL1).1
    refine ⟨hI [] F0 _ w W1 h0 (Kp.ofBelow _ hbel) (fun k h => ?_), hL1, hK1, fun h => by have := hF0 _ h; omega, fun h => by have := hF0 _ h; omega⟩
    rw [hU] at h
    rcases h with h | h | h
    · exact .inl h
    · right; omega
    · right; omega
  · -- behind the iterator
    rintro e W2 ⟨⟨v, rfl⟩, (⟨xs, F, hS, hi, hl, hk, _, _⟩ | ⟨pre, F, hSp, c, hi, hl, hk, _, _⟩)⟩
    · exact ⟨none, _, by have := run_endLoop (P := P) hl (by rw [hrec]; simp); rw [hrec] at this; exact this, hdone D xs (U F) _ (Nat.le_refl _) (hU0 F) hS (hI.put _ _ hi (hU1 F)) ((World.putObj_heap_other (by omega)).trans hk)⟩
    · exact ⟨some c, _, by have := run_endLoop (P := P) hl (by rw [hrec]; simp); rw [hrec] at this; exact this, hstop D c pre (U F) _ (Nat.le_refl _) (hU0 F) hSp ((hIx c).put _ _ hi (hU1 F)) ((World.putObj_heap_other (by omega)).trans hk)⟩

end Go.Proofs.Ytkcppidmbojglag
