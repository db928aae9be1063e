/- The document's link in memory, and what its calls do. -/
import Derived.Test.YtoigickgknbbfaeLkB
namespace Go.Proofs.Ytoigickgknbbfae
open Go.RowKit

/-- a block that holds a link: the document's -/
def RL (W : World) (b : Nat) (x : Lk) : Prop := W.heap[b]? = some (.cells #[.bool x.t, .int .i64 x.l, .int .i64 x.n] 47 (0, 0))
section
variable {W W' : World} {b : Nat} {x : Lk}
theorem RL.lt (H : RL W b x) : b < W.heap.size := (Array.getElem?_eq_some_iff.1 H).1
theorem RL.c0 (H : RL W b x) : W.cell? ⟨b, 0, none⟩ = some (.bool x.t) := by simp [World.cell?, show W.heap[b]? = _ from H]
theorem RL.c1 (H : RL W b x) : W.cell? ⟨b, 1, none⟩ = some (.int .i64 x.l) := by simp [World.cell?, show W.heap[b]? = _ from H]
theorem RL.c2 (H : RL W b x) : W.cell? ⟨b, 2, none⟩ = some (.int .i64 x.n) := by simp [World.cell?, show W.heap[b]? = _ from H]
theorem RL.fr (H : RL W b x) (i : Nat) : W.frozen? ⟨b, i, none⟩ = false := by simp [World.frozen?, show W.heap[b]? = _ from H]
theorem RL.below' (H : RL W b x) (hb : Below W.heap.size W W') : RL W' b x := (hb.block b H.lt).trans H
theorem RL.kb {c : Nat} (H : RL W b x) (k : Kb c W W') (hne : b ≠ c) : RL W' b x := (k.block b H.lt hne).trans H
theorem RL.new (W : World) (x : Lk) : RL (W.alloc (.cells #[.bool x.t, .int .i64 x.l, .int .i64 x.n] 47)) W.heap.size x := heap_alloc_new W _
theorem RL.setT (H : RL W b x) (t : Bool) : RL (W.setCell ⟨b, 0, none⟩ (.bool t)) b ⟨t, x.l, x.n⟩ := (heap_setCell_same W b 0 _ _ (.bool t) H).trans (by simp)
theorem RL.setL (H : RL W b x) (l : Int) : RL (W.setCell ⟨b, 1, none⟩ (.int .i64 l)) b ⟨x.t, l, x.n⟩ := (heap_setCell_same W b 1 _ _ (.int .i64 l) H).trans (by simp)
theorem RL.setN (H : RL W b x) (n : Int) : RL (W.setCell ⟨b, 2, none⟩ (.int .i64 n)) b ⟨x.t, x.l, n⟩ := (heap_setCell_same W b 2 _ _ (.int .i64 n) H).trans (by simp)
end

set_option maxHeartbeats 400000 in
theorem rsilent_any (x : Lk) (b : Nat) (w : World) (H : RL w b x) :
    Calls Try.prog 18 #[.pointer (some ⟨b, 0, none⟩)] w fun e w' => e = .returned (.int .i64 (LM.si x)) ∧ w' = w := by
  have c0 := H.c0
  have c2 := H.c2
  clear H
  go_enter Try.func18, Try.ntmps18
  go_wp2
  all_goals
    go_ret
    refine ⟨ret_int ?_, rfl⟩
    unfold LM.si
    simp_all

set_option maxHeartbeats 1000000 in
theorem rtake_any (x : Lk) (s N : Int) (b : Nat) (w : World) (H : RL w b x) (O : LM.Ok x N) :
    Calls Try.prog 21 #[.pointer (some ⟨b, 0, none⟩), .int .i64 s] w fun e w' => e = .returned (.int .i64 (LM.err x s)) ∧ RL w' b (LM.tk x s) ∧ Kb b w w' := by
  go_enter Try.func21, Try.ntmps21
  have c0 := H.c0
  have c1 := H.c1
  have c2 := H.c2
  have f0 := H.fr 0
  have f1 := H.fr 1
  have f2 := H.fr 2
  have HR := Hid.intro' H
  clear H
  by_cases h0 : s < 0 ∨ 65535 < s
  · have e1 := LM.err_arg (x := x) h0
    have HS := Hid.intro' (LM.tk_same (x := x) (s := s) (by rw [e1]; decide))
    have HE := Hid.intro' e1
    clear e1
    rcases h0 with h0 | h0
    all_goals
      go_wp2
      go_ret
      exact ⟨ret_int HE.out.symm, by rw [HS.out]; exact HR.out, Kb.refl _ _⟩
  · have s0 : 0 ≤ s := by omega
    have s1 : s ≤ 65535 := by omega
    have l0 := O.l0
    have l1 := O.l1
    clear h0
    rcases Bool.eq_false_or_eq_true (LM.nw x s) with hn | hn
    · have e1 := LM.err_new s0 s1 hn
      have HS := Hid.intro' (LM.tk_new e1)
      have HE := Hid.intro' e1
      have HN : Hid (x.t = true → 1 ≤ LM.ah x.l s ∧ LM.ah x.l s ≤ 32767) := fun ht => by
        unfold LM.nw at hn
        rw [ht] at hn
        simpa using hn
      clear e1 hn
      go_wp2
      all_goals
        first
        | (exfalso; rename_i ht _ _; have hh := HN.out (by simp_all); unfold LM.ah at hh; omega)
        | (go_ret
           refine ⟨ret_int HE.out.symm, ?_, (((Kb.refl _ _).set _ _).set _ _).set _ _⟩
           rw [HS.out]
           exact ((HR.out.setT true).setL s).setN 0)
    · have e1 := LM.err_old s0 s1 hn
      have HS := Hid.intro' (LM.tk_same (x := x) (s := s) (by rw [e1]; decide))
      have HE := Hid.intro' e1
      have HN : Hid (x.t = true ∧ (LM.ah x.l s < 1 ∨ 32767 < LM.ah x.l s)) := by
        show x.t = true ∧ (LM.ah x.l s < 1 ∨ 32767 < LM.ah x.l s)
        cases ht : x.t with
        | false => rw [LM.nw_first s ht] at hn; cases hn
        | true =>
          refine ⟨rfl, ?_⟩
          apply Classical.byContradiction
          intro hc
          rw [LM.nw_ahead (by omega) (by omega)] at hn
          cases hn
      clear e1 hn
      go_wp2
      all_goals
        first
        | (go_ret
           exact ⟨ret_int HE.out.symm, by rw [HS.out]; exact HR.out, Kb.refl _ _⟩)
        | (exfalso; have hh := HN.out.2; have ht := HN.out.1; unfold LM.ah at hh; first | omega | simp_all)

end Go.Proofs.Ytoigickgknbbfae
