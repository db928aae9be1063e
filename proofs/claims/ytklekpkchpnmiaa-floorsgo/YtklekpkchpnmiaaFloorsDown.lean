/- The falling sequence of package floors. -/
import Derived.Test.YtklekpkchpnmiaaFloorsIter
namespace Go.Proofs.Ytklekpkchpnmiaa
open Go.RowKit Go.Shelf
attribute [local go_sem] Oper.semAt_some

set_option maxRecDepth 100000 in
set_option maxHeartbeats 2000000 in
theorem down1_in (n : Nat) (l Bf Bs s : Nat) (f : Int) (hs : s < 18446744073709551616) (J Jx : List Nat → World → Prop)
    (hY : ∀ pre x W, J pre W → pre.length < 64 → YieldAt Fence.wide (n - 1) Try.prog l #[.int .i64 (x : Nat)] W fun e W' =>
      (e = .returned (.bool true) ∧ J (pre ++ [x]) W' ∧ KeepC Bs W W') ∨ (e = .returned (.bool false) ∧ Jx (pre ++ [x]) W'))
    (W : World) (hBf : W.cell? ⟨Bf, 0, none⟩ = some (.int .i64 f)) (hBs : W.cell? ⟨Bs, 0, none⟩ = some (.int .u64 s)) (h0 : J [] W) :
    CallsIn Fence.wide n Try.prog 39 #[.func (.yield l) #[] #[], .pointer (some ⟨Bf, 0, none⟩), .pointer (some ⟨Bs, 0, none⟩)] W fun e W' => (∃ v, e = .returned v) ∧
      ((∃ ys, ys = FM.downL s f ∧ J ys W') ∨ (∃ pre, pre <+: FM.downL s f ∧ Jx pre W')) := by
  refine callsIn_of_wp Try.func39 rfl trivial ?_ rfl
  simp only [Try.ntmps39, List.size_toArray, List.length_cons, List.length_nil, Nat.reduceAdd, Nat.reduceSub, Array.replicate_succ, Array.replicate_zero, List.push_toArray, List.append_toArray, List.nil_append, List.cons_append]
  by_cases hf : 0 ≤ f
  · obtain ⟨f0, rfl⟩ := Int.eq_ofNat_of_zero_le hf
    by_cases hm : f0 ≤ 63
    · have eL : FM.downL s (f0 : Int) = (FM.seg s 0 (f0 + 1)).reverse := by
        unfold FM.downL
        rw [if_pos (by omega), show ((f0 : Int) + 1).toNat = f0 + 1 by omega]
      rw [eL]; clear eL
      gi_wp2
      gi_loopw [4] (fun i wr => ∃ k : Nat, k ≤ f0 + 1 ∧ ((k = 0 ∧ i = .int .i64 (-1)) ∨ ∃ j : Nat, k = j + 1 ∧ i = .int .i64 j) ∧ J (FM.seg s k (f0 + 1)).reverse wr ∧ wr.cell? ⟨Bs, 0, none⟩ = some (.int .u64 s))
        (fun i _ => (intOf i + 1).toNat)
      case atStart => exact ⟨f0 + 1, Nat.le_refl _, .inr ⟨f0, rfl, rfl⟩, by rw [FM.seg_self s (f0 + 1) (f0 + 1) (Nat.le_refl _)]; exact h0, hBs⟩
      case round =>
        obtain ⟨k, hk, hki, hJs, hc⟩ := hrel
        clear hBf hBs h0
        rcases hki with ⟨rfl, rfl⟩ | ⟨j, rfl, rfl⟩
        · clear hY
          gi_wp2
          go_end0
          exact ⟨⟨_, rfl⟩, .inl ⟨_, rfl, hJs⟩⟩
        · have hlt : j < 64 := by omega
          cases hb : s.testBit j
          · have hh : FM.hasN s (j : Int) = false := by rw [FM.hasN_nat s j hlt]; exact hb
            have hJ2 : Hid (J (FM.seg s j (f0 + 1)).reverse wr) := by rw [FM.seg_down_no _ hb]; exact hJs
            clear hb hJs hY
            gi_wp2_with (refine ⟨trivial, fun h => (by cases h), ?_⟩; gi_at_call 25; refine (callsIn_wide.2 (has_any s _ _ hs)).mono ?_; rintro e w' ⟨rfl, rfl⟩)
            refine ⟨fun _ h => (by cases h), ?_⟩
            gi_wp2
            go_roundw
            case rel =>
              refine ⟨j, by omega, ?_, hJ2.out, hc⟩
              cases j with
              | zero => exact .inl ⟨rfl, rfl⟩
              | succ j => exact .inr ⟨j, rfl, by go_num⟩
            case measure => simp [intOf]
          · have hh : FM.hasN s (j : Int) = true := by rw [FM.hasN_nat s j hlt]; exact hb
            have eS : (FM.seg s j (f0 + 1)).reverse = (FM.seg s (j + 1) (f0 + 1)).reverse ++ [j] := by
              rw [FM.seg_down_yes (f0 + 1) (by omega) hb, List.reverse_cons]
            have HS := Hid.intro' eS
            have hpre : (FM.seg s j (f0 + 1)).reverse <+: (FM.seg s 0 (f0 + 1)).reverse := List.reverse_prefix.2 (FM.seg_suffix s (f0 + 1) (Nat.zero_le j))
            have HP := Hid.intro' hpre
            obtain ⟨fn, tmps, assign, body, hy, hR⟩ := hY (FM.seg s (j + 1) (f0 + 1)).reverse j wr hJs (by
              have := FM.seg_length s j (f0 + 1)
              rw [FM.seg_down_yes (f0 + 1) (by omega) hb, List.length_cons] at this
              rw [List.length_reverse]; omega)
            clear hb eS hpre hJs
            gi_wp2_with (refine ⟨trivial, fun h => (by cases h), ?_⟩; gi_at_call 25; refine (callsIn_wide.2 (has_any s _ _ hs)).mono ?_; rintro e w' ⟨rfl, rfl⟩)
            refine ⟨fun h => (by cases h), ?_⟩
            refine hR.mono ?_
            rintro e W3 (⟨rfl, hJ3, hk3⟩ | ⟨rfl, hJx3⟩)
            · have hc3 : W3.cell? ⟨Bs, 0, none⟩ = some (.int .u64 s) := Eq.trans hk3 hc
              have HK := Hid.intro' hk3
              clear hk3 hR hy
              gi_wp2
              go_roundw
              case rel =>
                refine ⟨j, by omega, ?_, by rw [HS.out]; exact hJ3, hc3⟩
                cases j with
                | zero => exact .inl ⟨rfl, rfl⟩
                | succ j => exact .inr ⟨j, rfl, by go_num⟩
              case measure => simp [intOf]
            · clear hR hy
              gi_wp2
              refine bodyPost_ret (results_none rfl _ _ _) rfl ?_
              exact ⟨⟨_, rfl⟩, .inr ⟨_, by rw [← HS.out]; exact HP.out, hJx3⟩⟩
    · have hm' : 63 < (f0 : Int) := by omega
      have eL : FM.downL s (f0 : Int) = (FM.seg s 0 (63 + 1)).reverse := by
        unfold FM.downL
        rw [if_neg (by omega)]; rfl
      rw [eL]; clear eL
      gi_wp2
      gi_loopw [4] (fun i wr => ∃ k : Nat, k ≤ 63 + 1 ∧ ((k = 0 ∧ i = .int .i64 (-1)) ∨ ∃ j : Nat, k = j + 1 ∧ i = .int .i64 j) ∧ J (FM.seg s k (63 + 1)).reverse wr ∧ wr.cell? ⟨Bs, 0, none⟩ = some (.int .u64 s))
        (fun i _ => (intOf i + 1).toNat)
      case atStart => exact ⟨63 + 1, Nat.le_refl _, .inr ⟨63, rfl, rfl⟩, by rw [FM.seg_self s (63 + 1) (63 + 1) (Nat.le_refl _)]; exact h0, hBs⟩
      case round =>
        obtain ⟨k, hk, hki, hJs, hc⟩ := hrel
        clear hBf hBs h0
        rcases hki with ⟨rfl, rfl⟩ | ⟨j, rfl, rfl⟩
        · clear hY
          gi_wp2
          go_end0
          exact ⟨⟨_, rfl⟩, .inl ⟨_, rfl, hJs⟩⟩
        · have hlt : j < 64 := by omega
          cases hb : s.testBit j
          · have hh : FM.hasN s (j : Int) = false := by rw [FM.hasN_nat s j hlt]; exact hb
            have hJ2 : Hid (J (FM.seg s j (63 + 1)).reverse wr) := by rw [FM.seg_down_no _ hb]; exact hJs
            clear hb hJs hY
            gi_wp2_with (refine ⟨trivial, fun h => (by cases h), ?_⟩; gi_at_call 25; refine (callsIn_wide.2 (has_any s _ _ hs)).mono ?_; rintro e w' ⟨rfl, rfl⟩)
            refine ⟨fun _ h => (by cases h), ?_⟩
            gi_wp2
            go_roundw
            case rel =>
              refine ⟨j, by omega, ?_, hJ2.out, hc⟩
              cases j with
              | zero => exact .inl ⟨rfl, rfl⟩
              | succ j => exact .inr ⟨j, rfl, by go_num⟩
            case measure => simp [intOf]
          · have hh : FM.hasN s (j : Int) = true := by rw [FM.hasN_nat s j hlt]; exact hb
            have eS : (FM.seg s j (63 + 1)).reverse = (FM.seg s (j + 1) (63 + 1)).reverse ++ [j] := by
              rw [FM.seg_down_yes (63 + 1) (by omega) hb, List.reverse_cons]
            have HS := Hid.intro' eS
            have hpre : (FM.seg s j (63 + 1)).reverse <+: (FM.seg s 0 (63 + 1)).reverse := List.reverse_prefix.2 (FM.seg_suffix s (63 + 1) (Nat.zero_le j))
            have HP := Hid.intro' hpre
            obtain ⟨fn, tmps, assign, body, hy, hR⟩ := hY (FM.seg s (j + 1) (63 + 1)).reverse j wr hJs (by
              have := FM.seg_length s j (63 + 1)
              rw [FM.seg_down_yes (63 + 1) (by omega) hb, List.length_cons] at this
              rw [List.length_reverse]; omega)
            clear hb eS hpre hJs
            gi_wp2_with (refine ⟨trivial, fun h => (by cases h), ?_⟩; gi_at_call 25; refine (callsIn_wide.2 (has_any s _ _ hs)).mono ?_; rintro e w' ⟨rfl, rfl⟩)
            refine ⟨fun h => (by cases h), ?_⟩
            refine hR.mono ?_
            rintro e W3 (⟨rfl, hJ3, hk3⟩ | ⟨rfl, hJx3⟩)
            · have hc3 : W3.cell? ⟨Bs, 0, none⟩ = some (.int .u64 s) := Eq.trans hk3 hc
              have HK := Hid.intro' hk3
              clear hk3 hR hy
              gi_wp2
              go_roundw
              case rel =>
                refine ⟨j, by omega, ?_, by rw [HS.out]; exact hJ3, hc3⟩
                cases j with
                | zero => exact .inl ⟨rfl, rfl⟩
                | succ j => exact .inr ⟨j, rfl, by go_num⟩
              case measure => simp [intOf]
            · clear hR hy
              gi_wp2
              refine bodyPost_ret (results_none rfl _ _ _) rfl ?_
              exact ⟨⟨_, rfl⟩, .inr ⟨_, by rw [← HS.out]; exact HP.out, hJx3⟩⟩
  · have eL : FM.downL s f = [] := by
      unfold FM.downL
      rw [if_pos (by omega), show (f + 1).toNat = 0 by omega]; rfl
    rw [eL]; clear eL hY
    gi_wp2
    gi_loopw [4] (fun i wr => i = .int .i64 f ∧ J [] wr) (fun _ _ => 0)
    case atStart => exact ⟨rfl, h0⟩
    case round =>
      obtain ⟨rfl, hJs⟩ := hrel
      gi_wp2
      go_end0
      exact ⟨⟨_, rfl⟩, .inl ⟨_, rfl, hJs⟩⟩

end Go.Proofs.Ytklekpkchpnmiaa
