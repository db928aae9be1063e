/- Links in memory, ours and the document's: blocks of three cells; and what each call does. -/
import Derived.Test.YtoigickgknbbfaeRows
import Derived.Test.YtoigickgknbbfaeNum
import Derived.Test.YtoigickgknbbfaeLkM
import Derived.WalkKit
import Derived.WalkSpells
import Derived.WalkLawsBesides
import Derived.Laws.Tables
import Derived.Laws.Rows
import Derived.Laws.CopyOwn
import Derived.Laws.BitsAllLaws
import Derived.Deep.MidRow
namespace Go.Proofs.Ytoigickgknbbfae
open Go.RowKit

theorem Hid.intro' {p : Prop} (h : p) : Hid p := h
theorem ret_int {k : IntKind} {a b : Int} (h : a = b) : Ending.returned (.int k a) = .returned (.int k b) := by rw [h]
theorem ret_boo {a b : Bool} (h : a = b) : Ending.returned (.bool a) = .returned (.bool b) := by rw [h]
theorem below_class {W0 w w' : World} (h : Below W0.heap.size W0 w) (h' : Below w.heap.size w w') : Below W0.heap.size W0 w' := h.trans (h'.mono h.size)

/-- one block may be written; all else that was there is as it was -/
structure Kb (b : Nat) (w w' : World) : Prop where
  os : w'.os = w.os
  tape : w'.tape = w.tape
  output : w'.output = w.output
  size : w.heap.size ≤ w'.heap.size
  block : ∀ k, k < w.heap.size → k ≠ b → w'.heap[k]? = w.heap[k]?
section
variable {b B : Nat} {a w w' : World}
theorem Kb.refl (b : Nat) (w : World) : Kb b w w := ⟨rfl, rfl, rfl, Nat.le_refl _, fun _ _ _ => rfl⟩
theorem Kb.row (b : Nat) (w : World) (cs : Array Value) : Kb b w (w.setRow b cs) := by
  have h : Below 0 w (w.setRow b cs) := below_setRow (Below.refl 0 w) (Nat.zero_le _) cs
  exact ⟨h.os, h.tape, h.output, h.size, fun k _ hk => setRow_other w b k cs hk⟩
theorem Kb.set (h : Kb b a w) (i : Nat) (u : Value) : Kb b a (w.setCell ⟨b, i, none⟩ u) :=
  ⟨h.os, h.tape, h.output, by have := h.size; simpa [World.setCell] using this, fun k hk hne => (Below.heap_setCell _ _ _ _ hne).trans (h.block k hk hne)⟩
theorem Kb.below (h : Kb b w w') (hb : Below B a w) (hB : B ≤ w.heap.size) (hlt : B ≤ b) : Below B a w' :=
  hb.trans ⟨h.os, h.tape, h.output, h.size, fun i hi => h.block i (by omega) (by omega)⟩
end

/-- a block that holds a link: ours -/
def LB (W : World) (b : Nat) (x : Lk) : Prop := W.heap[b]? = some (.cells #[.bool x.t, .int .u16 x.l, .int .i64 x.n] 66 (0, 0))
section
variable {W W' : World} {b : Nat} {x : Lk}
theorem LB.lt (H : LB W b x) : b < W.heap.size := (Array.getElem?_eq_some_iff.1 H).1
theorem LB.c0 (H : LB W b x) : W.cell? ⟨b, 0, none⟩ = some (.bool x.t) := by simp [World.cell?, show W.heap[b]? = _ from H]
theorem LB.c1 (H : LB W b x) : W.cell? ⟨b, 1, none⟩ = some (.int .u16 x.l) := by simp [World.cell?, show W.heap[b]? = _ from H]
theorem LB.c2 (H : LB W b x) : W.cell? ⟨b, 2, none⟩ = some (.int .i64 x.n) := by simp [World.cell?, show W.heap[b]? = _ from H]
theorem LB.fr (H : LB W b x) (i : Nat) : W.frozen? ⟨b, i, none⟩ = false := by simp [World.frozen?, show W.heap[b]? = _ from H]
theorem LB.below' (H : LB W b x) (hb : Below W.heap.size W W') : LB W' b x := (hb.block b H.lt).trans H
theorem LB.kb {c : Nat} (H : LB W b x) (k : Kb c W W') (hne : b ≠ c) : LB W' b x := (k.block b H.lt hne).trans H
theorem LB.new (W : World) (x : Lk) : LB (W.alloc (.cells #[.bool x.t, .int .u16 x.l, .int .i64 x.n] 66)) W.heap.size x := heap_alloc_new W _
theorem LB.setN (H : LB W b x) (n : Int) : LB (W.setCell ⟨b, 2, none⟩ (.int .i64 n)) b ⟨x.t, x.l, n⟩ :=
  (heap_setCell_same W b 2 _ _ (.int .i64 n) H).trans (by simp)
end
theorem infoL : (Try.prog.info? 66).map (·.size) = some 3 := by kernel_rfl
theorem wpList_storeL {ops : Array Oper} {rest : List Oper} {op : Oper} {a : Act} {w : World} {Q : Exit → Act → World → Prop} (hgd : op.guard = none) (x y : Operand) (ho : op.op = .store 66 x y)
    (b : Nat) {s : Lk} {t' : Bool} {l' n' : Int} (hx : a.eval x = .pointer (some ⟨b, 0, none⟩)) (hy : a.eval y = .agg #[.bool t', .int .u16 l', .int .i64 n']) (hL : LB w b s)
    (hn : ∀ W', Kb b w W' → LB W' b ⟨t', l', n'⟩ → wpList Try.prog ops Q rest (a.put op.dst undef) W') : wpList Try.prog ops Q (op :: rest) a w :=
  wpList_store_row hgd 66 x y ho b _ hx hy _ _ hL infoL rfl (by simp [Value.oneCell']) (hn _ (Kb.row b w _) (setRow_heap w b _ _ _ _ hL))

set_option maxHeartbeats 400000 in
theorem within_any (a : Int) (w : World) :
    Calls Try.prog 34 #[.int .i64 a] w fun e w' => e = .returned (.int .i64 (NumM.cl a)) ∧ w' = w := by
  go_enter Try.func34, Try.ntmps34
  go_wp2
  all_goals
    go_ret
    exact ⟨ret_int (by unfold NumM.cl; repeat' split
                       all_goals omega), rfl⟩

set_option maxHeartbeats 400000 in
theorem add_any (a b : Int) (w : World) :
    Calls Try.prog 30 #[.int .i64 a, .int .i64 b] w fun e w' => e = .returned (.int .i64 (NumM.cl (NumM.cl a + NumM.cl b))) ∧ w' = w := by
  obtain ⟨a1, a2⟩ := NumM.cl_bd a
  obtain ⟨b1, b2⟩ := NumM.cl_bd b
  go_enter Try.func30, Try.ntmps30
  go_wp2_with (go_at_call 34; refine (within_any _ _).mono ?_; rintro e w' ⟨rfl, rfl⟩)
  go_ret
  exact ⟨rfl, rfl⟩

set_option maxHeartbeats 400000 in
theorem new_any (w : World) :
    Calls Try.prog 15 #[] w fun e w' => e = .returned (.pointer (some ⟨w.heap.size, 0, none⟩)) ∧ w' = w.alloc (.cells #[.bool false, .int .u16 0, .int .i64 0] 66) := by
  go_enter Try.func15, Try.ntmps15
  go_wp2
  go_ret
  exact ⟨rfl, rfl⟩

set_option maxHeartbeats 400000 in
theorem newer_any (x : Lk) (s : Int) (b : Nat) (w : World) (H : LB w b x) :
    Calls Try.prog 31 #[.pointer (some ⟨b, 0, none⟩), .int .u16 s] w fun e w' => e = .returned (.bool (LM.nw x s)) ∧ w' = w := by
  have c0 := H.c0
  have c1 := H.c1
  clear H
  have hw : IntKind.u16.wrap (s - x.l) = LM.ah x.l s := IntKind.wrap_u16 _
  unfold LM.nw
  generalize LM.ah x.l s = d at hw
  go_enter Try.func31, Try.ntmps31
  go_wp2
  all_goals
    go_ret
    refine ⟨ret_boo ?_, rfl⟩
    simp_all
  all_goals omega

set_option maxHeartbeats 1000000 in
theorem take_any (x : Lk) (s : Int) (b : Nat) (w : World) (H : LB w b x) :
    Calls Try.prog 20 #[.pointer (some ⟨b, 0, none⟩), .int .i64 s] w fun e w' => e = .returned (.int .i64 (LM.err x s)) ∧ LB w' b (LM.tk x s) ∧ Kb b w w' := by
  go_enter Try.func20, Try.ntmps20
  by_cases h0 : s < 0 ∨ 65535 < s
  · have e1 := LM.err_arg (x := x) h0
    have HS := Hid.intro' (LM.tk_same (x := x) (s := s) (by rw [e1]; decide))
    have HE := Hid.intro' e1
    clear e1
    rcases h0 with h0 | h0
    all_goals
      go_wp2
      go_ret
      exact ⟨ret_int HE.out.symm, by rw [HS.out]; exact H, Kb.refl _ _⟩
  · have s0 : 0 ≤ s := by omega
    have s1 : s ≤ 65535 := by omega
    have hc : IntKind.u16.wrap s = s := by rw [IntKind.wrap_u16]; omega
    clear h0
    rcases Bool.eq_false_or_eq_true (LM.nw x s) with hn | hn
    · have e1 := LM.err_new s0 s1 hn
      have HS := Hid.intro' (LM.tk_new e1)
      have HE := Hid.intro' e1
      clear e1
      go_wp2_with fail
      refine (newer_any x s b _ H).mono ?_
      rintro e w' ⟨rfl, rfl⟩
      go_wp2_with (refine wpList_storeL rfl _ _ rfl b (s := x) (t' := true) (l' := s) (n' := 0) rfl rfl H ?_)
      intro W2 hk2 hl2
      go_wp2
      go_ret
      exact ⟨ret_int HE.out.symm, by rw [HS.out]; exact hl2, hk2⟩
    · have e1 := LM.err_old s0 s1 hn
      have HS := Hid.intro' (LM.tk_same (x := x) (s := s) (by rw [e1]; decide))
      have HE := Hid.intro' e1
      clear e1
      go_wp2_with (go_at_call 31; refine (newer_any x s b _ H).mono ?_; rintro e w' ⟨rfl, rfl⟩)
      go_ret
      exact ⟨ret_int HE.out.symm, by rw [HS.out]; exact H, Kb.refl _ _⟩

set_option maxHeartbeats 400000 in
theorem tick_any (x : Lk) (N : Int) (b : Nat) (w : World) (H : LB w b x) (O : LM.Ok x N) (hN : N ≤ 1000000) :
    Calls Try.prog 16 #[.pointer (some ⟨b, 0, none⟩)] w fun e w' => e = .returned (.tuple #[]) ∧ LB w' b (LM.ti x) ∧ Kb b w w' := by
  have c0 := H.c0
  have c2 := H.c2
  have f2 := H.fr 2
  have n0 := O.n0
  have n1 := O.n1
  have hcl : NumM.cl (NumM.cl x.n + NumM.cl 1) = x.n + 1 := by
    rw [NumM.cl_in (a := x.n) (by omega) (by omega), NumM.cl_in (a := 1) (by omega) (by omega), NumM.cl_in (by omega) (by omega)]
  go_enter Try.func16, Try.ntmps16
  rcases Bool.eq_false_or_eq_true x.t with ht | ht
  · have HS : Hid (LM.ti x = ⟨x.t, x.l, x.n + 1⟩) := by show LM.ti x = _; unfold LM.ti; rw [if_pos ht, ht]
    have HK := Hid.intro' H
    clear H
    go_wp2_with (go_at_call 30; refine (add_any _ _ _).mono ?_; rintro e w' ⟨rfl, rfl⟩)
    go_end0
    refine ⟨rfl, ?_, (Kb.refl _ _).set _ _⟩
    rw [HS.out, ← hcl]
    exact HK.out.setN _
  · have HS : Hid (LM.ti x = x) := by show LM.ti x = _; unfold LM.ti; rw [if_neg (by rw [ht]; simp)]
    have HK := Hid.intro' H
    clear H
    go_wp2
    go_end0
    refine ⟨rfl, ?_, Kb.refl _ _⟩
    rw [HS.out]
    exact HK.out

set_option maxHeartbeats 400000 in
theorem silent_any (x : Lk) (b : Nat) (w : World) (H : LB w b x) :
    Calls Try.prog 17 #[.pointer (some ⟨b, 0, none⟩)] w fun e w' => e = .returned (.int .i64 (LM.si x)) ∧ w' = w := by
  have c0 := H.c0
  have c2 := H.c2
  clear H
  go_enter Try.func17, Try.ntmps17
  go_wp2
  all_goals
    go_ret
    refine ⟨ret_int ?_, rfl⟩
    unfold LM.si
    simp_all

set_option maxHeartbeats 400000 in
theorem live_any (x : Lk) (k : Int) (b : Nat) (w : World) (H : LB w b x) :
    Calls Try.prog 19 #[.pointer (some ⟨b, 0, none⟩), .int .i64 k] w fun e w' => e = .returned (.bool (LM.li x k)) ∧ w' = w := by
  have c0 := H.c0
  have c2 := H.c2
  clear H
  go_enter Try.func19, Try.ntmps19
  go_wp2
  all_goals
    go_ret
    refine ⟨ret_boo ?_, rfl⟩
    unfold LM.li
    simp_all

end Go.Proofs.Ytoigickgknbbfae
