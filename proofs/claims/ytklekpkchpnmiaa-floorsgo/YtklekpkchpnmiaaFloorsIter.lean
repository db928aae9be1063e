/- The sequences of package floors: rising, falling; their first floor; the nearest floor. -/
import Derived.Test.YtklekpkchpnmiaaFloorsWalks
import Derived.RangeFuncNested
import Derived.RangeFuncBound
import Derived.RangeFuncCalls
import Derived.RangeFuncLeaves
import Derived.RangeFuncBox
import Derived.Shelf.Abstract
import Derived.Shelf.RegionOpen
import Derived.WalkKit
import Derived.OwnWalkIn
import Derived.TacticsInMore
import Derived.LoopNIn
import Derived.LoopIn
namespace Go.Proofs.Ytklekpkchpnmiaa
open Go.RowKit Go.Shelf
attribute [local go_sem] Oper.semAt_some

/-- the cell of a box is kept -/
def KeepC (b : Nat) (W W' : World) : Prop := W'.cell? ⟨b, 0, none⟩ = W.cell? ⟨b, 0, none⟩

set_option maxHeartbeats 400000 in
theorem up_any (s : Nat) (f : Int) (w : World) :
    Calls Try.prog 28 #[.int .u64 s, .int .i64 f] w fun e w' => e = .returned (.func (.func 38) #[] #[.pointer (some ⟨w.heap.size + 1, 0, none⟩), .pointer (some ⟨w.heap.size, 0, none⟩)]) ∧
      w' = (w.alloc (.cells #[.int .u64 s] 33)).alloc (.cells #[.int .i64 f] 3) := by
  have hmf : ∀ (fn : Fn) (first cap : Array Value) (w : World), (Instr.makeFunc fn first cap).run Try.prog w = .ok (.func fn first cap) w := fun _ _ _ _ => rfl
  go_enter Try.func28, Try.ntmps28
  go_wp2
  go_ret
  exact ⟨rfl, rfl⟩
set_option maxHeartbeats 400000 in
theorem down_any (s : Nat) (f : Int) (w : World) :
    Calls Try.prog 29 #[.int .u64 s, .int .i64 f] w fun e w' => e = .returned (.func (.func 39) #[] #[.pointer (some ⟨w.heap.size + 1, 0, none⟩), .pointer (some ⟨w.heap.size, 0, none⟩)]) ∧
      w' = (w.alloc (.cells #[.int .u64 s] 33)).alloc (.cells #[.int .i64 f] 3) := by
  have hmf : ∀ (fn : Fn) (first cap : Array Value) (w : World), (Instr.makeFunc fn first cap).run Try.prog w = .ok (.func fn first cap) w := fun _ _ _ _ => rfl
  go_enter Try.func29, Try.ntmps29
  go_wp2
  go_ret
  exact ⟨rfl, rfl⟩

set_option maxRecDepth 100000 in
set_option maxHeartbeats 2000000 in
theorem up1_in (n : Nat) (l Bf Bs s : Nat) (f : Int) (hs : s < 18446744073709551616) (J Jx : List Nat → World → Prop)
    (hY : ∀ pre x W, J pre W → pre.length < 64 → YieldAt Fence.wide (n - 1) Try.prog l #[.int .i64 (x : Nat)] W fun e W' =>
      (e = .returned (.bool true) ∧ J (pre ++ [x]) W' ∧ KeepC Bs W W') ∨ (e = .returned (.bool false) ∧ Jx (pre ++ [x]) W'))
    (W : World) (hBf : W.cell? ⟨Bf, 0, none⟩ = some (.int .i64 f)) (hBs : W.cell? ⟨Bs, 0, none⟩ = some (.int .u64 s)) (h0 : J [] W) :
    CallsIn Fence.wide n Try.prog 38 #[.func (.yield l) #[] #[], .pointer (some ⟨Bf, 0, none⟩), .pointer (some ⟨Bs, 0, none⟩)] W fun e W' => (∃ v, e = .returned v) ∧
      ((∃ ys, ys = FM.upL s f ∧ J ys W') ∨ (∃ pre, pre <+: FM.upL s f ∧ Jx pre W')) := by
  refine callsIn_of_wp Try.func38 rfl trivial ?_ rfl
  simp only [Try.ntmps38, List.size_toArray, List.length_cons, List.length_nil, Nat.reduceAdd, Nat.reduceSub, Array.replicate_succ, Array.replicate_zero, List.push_toArray, List.append_toArray, List.nil_append, List.cons_append]
  by_cases hf : 0 ≤ f
  · obtain ⟨k0, rfl⟩ := Int.eq_ofNat_of_zero_le hf
    have eL : FM.upL s (k0 : Int) = FM.seg s k0 64 := by unfold FM.upL; simp
    rw [eL]; clear eL
    gi_wp2
    gi_loopw [4] (fun i wr => ∃ k : Nat, k0 ≤ k ∧ (k ≤ 64 ∨ k = k0) ∧ i = .int .i64 k ∧ J (FM.seg s k0 k) wr ∧ wr.cell? ⟨Bs, 0, none⟩ = some (.int .u64 s))
      (fun i _ => 64 - (intOf i).toNat)
    case atStart => exact ⟨k0, Nat.le_refl _, .inr rfl, rfl, by rw [FM.seg_self s k0 k0 (Nat.le_refl _)]; exact h0, hBs⟩
    case round =>
      obtain ⟨k, hk1, hk2, rfl, hJs, hc⟩ := hrel
      clear hBf hBs h0
      by_cases hlt : k < 64
      · cases hb : s.testBit k
        · have hh : FM.hasN s (k : Int) = false := by rw [FM.hasN_nat s k hlt]; exact hb
          have hJ2 : Hid (J (FM.seg s k0 (k + 1)) wr) := by rw [FM.seg_no hb]; exact hJs
          clear hb hJs hY
          gi_wp2_with (refine ⟨trivial, fun h => (by cases h), ?_⟩; gi_at_call 25; refine (callsIn_wide.2 (has_any s _ _ hs)).mono ?_; rintro e w' ⟨rfl, rfl⟩)
          refine ⟨fun _ h => (by cases h), ?_⟩
          gi_wp2
          go_roundw
          case rel => exact ⟨k + 1, by omega, .inl (by omega), by go_num, hJ2.out, hc⟩
          case measure => simp [intOf]; omega
        · have hh : FM.hasN s (k : Int) = true := by rw [FM.hasN_nat s k hlt]; exact hb
          have eS : FM.seg s k0 (k + 1) = FM.seg s k0 k ++ [k] := FM.seg_yes hk1 hb
          have HS := Hid.intro' eS
          have hpre := FM.seg_prefix s k0 (show k + 1 ≤ 64 by omega)
          have HP := Hid.intro' hpre
          obtain ⟨fn, tmps, assign, body, hy, hR⟩ := hY (FM.seg s k0 k) k wr hJs (by have := FM.seg_length s k0 k; omega)
          clear hb eS hpre hJs
          gi_wp2_with (refine ⟨trivial, fun h => (by cases h), ?_⟩; gi_at_call 25; refine (callsIn_wide.2 (has_any s _ _ hs)).mono ?_; rintro e w' ⟨rfl, rfl⟩)
          refine ⟨fun h => (by cases h), ?_⟩
          refine hR.mono ?_
          rintro e W3 (⟨rfl, hJ3, hk3⟩ | ⟨rfl, hJx3⟩)
          · have hc3 : W3.cell? ⟨Bs, 0, none⟩ = some (.int .u64 s) := Eq.trans hk3 hc
            have HK := Hid.intro' hk3
            clear hk3 hR hy
            gi_wp2
            go_roundw
            case rel => exact ⟨k + 1, by omega, .inl (by omega), by go_num, by rw [HS.out]; exact hJ3, hc3⟩
            case measure => simp [intOf]; omega
          · clear hR hy
            gi_wp2
            refine bodyPost_ret (results_none rfl _ _ _) rfl ?_
            exact ⟨⟨_, rfl⟩, .inr ⟨_, by rw [← HS.out]; exact HP.out, hJx3⟩⟩
      · clear hY
        gi_wp2
        go_end0
        refine ⟨⟨_, rfl⟩, .inl ⟨_, ?_, hJs⟩⟩
        rcases hk2 with h | h
        · obtain rfl : k = 64 := by omega
          rfl
        · subst h
          rw [FM.seg_self s _ _ (Nat.le_refl _), FM.seg_self s _ 64 (by omega)]
  · have eL : FM.upL s f = FM.seg s 0 64 := by unfold FM.upL; rw [show f.toNat = 0 by omega]
    rw [eL]; clear eL
    gi_wp2
    gi_loopw [4] (fun i wr => ∃ k : Nat, 0 ≤ k ∧ (k ≤ 64 ∨ k = 0) ∧ i = .int .i64 k ∧ J (FM.seg s 0 k) wr ∧ wr.cell? ⟨Bs, 0, none⟩ = some (.int .u64 s))
      (fun i _ => 64 - (intOf i).toNat)
    case atStart => exact ⟨0, Nat.le_refl _, .inr rfl, rfl, by rw [FM.seg_self s 0 0 (Nat.le_refl _)]; exact h0, hBs⟩
    case round =>
      obtain ⟨k, hk1, hk2, rfl, hJs, hc⟩ := hrel
      clear hBf hBs h0
      by_cases hlt : k < 64
      · cases hb : s.testBit k
        · have hh : FM.hasN s (k : Int) = false := by rw [FM.hasN_nat s k hlt]; exact hb
          have hJ2 : Hid (J (FM.seg s 0 (k + 1)) wr) := by rw [FM.seg_no hb]; exact hJs
          clear hb hJs hY
          gi_wp2_with (refine ⟨trivial, fun h => (by cases h), ?_⟩; gi_at_call 25; refine (callsIn_wide.2 (has_any s _ _ hs)).mono ?_; rintro e w' ⟨rfl, rfl⟩)
          refine ⟨fun _ h => (by cases h), ?_⟩
          gi_wp2
          go_roundw
          case rel => exact ⟨k + 1, by omega, .inl (by omega), by go_num, hJ2.out, hc⟩
          case measure => simp [intOf]; omega
        · have hh : FM.hasN s (k : Int) = true := by rw [FM.hasN_nat s k hlt]; exact hb
          have eS : FM.seg s 0 (k + 1) = FM.seg s 0 k ++ [k] := FM.seg_yes hk1 hb
          have HS := Hid.intro' eS
          have hpre := FM.seg_prefix s 0 (show k + 1 ≤ 64 by omega)
          have HP := Hid.intro' hpre
          obtain ⟨fn, tmps, assign, body, hy, hR⟩ := hY (FM.seg s 0 k) k wr hJs (by have := FM.seg_length s 0 k; omega)
          clear hb eS hpre hJs
          gi_wp2_with (refine ⟨trivial, fun h => (by cases h), ?_⟩; gi_at_call 25; refine (callsIn_wide.2 (has_any s _ _ hs)).mono ?_; rintro e w' ⟨rfl, rfl⟩)
          refine ⟨fun h => (by cases h), ?_⟩
          refine hR.mono ?_
          rintro e W3 (⟨rfl, hJ3, hk3⟩ | ⟨rfl, hJx3⟩)
          · have hc3 : W3.cell? ⟨Bs, 0, none⟩ = some (.int .u64 s) := Eq.trans hk3 hc
            have HK := Hid.intro' hk3
            clear hk3 hR hy
            gi_wp2
            go_roundw
            case rel => exact ⟨k + 1, by omega, .inl (by omega), by go_num, by rw [HS.out]; exact hJ3, hc3⟩
            case measure => simp [intOf]; omega
          · clear hR hy
            gi_wp2
            refine bodyPost_ret (results_none rfl _ _ _) rfl ?_
            exact ⟨⟨_, rfl⟩, .inr ⟨_, by rw [← HS.out]; exact HP.out, hJx3⟩⟩
      · clear hY
        gi_wp2
        go_end0
        refine ⟨⟨_, rfl⟩, .inl ⟨_, ?_, hJs⟩⟩
        rcases hk2 with h | h
        · obtain rfl : k = 64 := by omega
          rfl
        · subst h
          rw [FM.seg_self s _ _ (Nat.le_refl _), FM.seg_self s _ 64 (by omega)]

end Go.Proofs.Ytklekpkchpnmiaa
