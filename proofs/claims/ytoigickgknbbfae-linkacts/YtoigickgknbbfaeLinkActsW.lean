/- LinkActs: the walk. -/
import Derived.Test.YtoigickgknbbfaeLkA
import Derived.Deep.Quiet
import Derived.Deep.QuietTactic
import Derived.BigQuiet
import Derived.Deep.RegionHeld3
import Derived.Deep.DeepCutAuto
namespace Go.Proofs.Ytoigickgknbbfae
open Go.RowKit

theorem li_t {l n k : Int} : LM.li ⟨true, l, n⟩ k = decide (n < k) := by simp [LM.li]

set_option maxHeartbeats 4000000 in
theorem acts_of (ao : Option Addr) (len cap : Nat) (tk : Int) (w : World) (hA : AS w ao len) :
    Calls Try.prog 5 #[.slice ao len cap, .int .i64 tk] w fun e w' => e = .returned (.bool true) ∧ Below w.heap.size w w' := by
  have HA := Hid.intro' hA
  clear hA
  go_enter Try.func5, Try.ntmps5
  go_wp2_with fail
  refine (speaks_any _).mono ?_
  rintro e W1 ⟨rfl, hb1⟩
  have HB1 := Hid.intro' hb1
  clear hb1
  by_cases hl : 100 < len
  · have hz : (100 : Int) < (len : Int) := by omega
    go_wp2
    go_ret
    exact ⟨rfl, HB1.out⟩
  · have hz : ¬ (100 : Int) < (len : Int) := by omega
    have HT0 := Hid.intro' (Lt.new HB1.out)
    go_wp2_with fail
    refine (new_any _).mono ?_
    rintro e W2 ⟨rfl, rfl⟩
    clear HB1
    go_wp2
    generalize W1.heap.size = b at HT0 ⊢
    generalize (W1.alloc (.cells #[.bool false, .int .u16 0, .int .i64 0] 66)).alloc (.cells #[.bool false, .int .i64 0, .int .i64 0] 47) = W3 at HT0 ⊢
    go_loopw [8, 9, 20] (fun _ _ i wr => ∃ (k : Nat) (x : Lk), k ≤ len ∧ i = .int .i64 k ∧ Hid (Lt w wr b (b + 1) x x) ∧ Hid (LM.Ok x (127 * (k : Int)))) (fun _ _ i _ => len - (intOf i).toNat)
    case atStart => exact ⟨0, LM.z, Nat.zero_le _, rfl, HT0, LM.ok_z⟩
    case round =>
      obtain ⟨k, x, hk, rfl, HT, HO⟩ := hrel
      by_cases hlt : k < len
      · have hkz : (k : Int) < (len : Int) := by omega
        obtain ⟨ga, off, ti, sq, hao, hc0, hc1⟩ := HA.out.at HT.out.bel hlt
        have hix := fun W => ixT W (cap := cap) hao hlt
        obtain ⟨M, hM, eM⟩ := mask_127 ti
        have H5 := Hid.intro' (HT.out.begin ti sq)
        clear hao
        go_wp2
        clear hix hc0 hc1 HT
        generalize wr.heap.size = c at H5 ⊢
        generalize wr.alloc (.cells #[.int .i64 ti, .int .i64 sq] 49) = W5 at H5 ⊢
        go_loopw [9] (fun j wq => ∃ (i : Nat) (x : Lk), i ≤ M ∧ j = .int .i64 i ∧ Hid (La w wq b (b + 1) c x x ti sq) ∧ Hid (LM.Ok x (127 * (k : Int) + i))) (fun j _ => M - (intOf j).toNat)
        case atStart => exact ⟨0, x, Nat.zero_le _, rfl, H5, HO.out.mono (by omega)⟩
        case round =>
          obtain ⟨i, ⟨t, l, n⟩, hi, rfl, HQ, HO2⟩ := hrel
          have e0 := HQ.out.ac.c0
          by_cases hlt2 : i < M
          · have hiz : (i : Int) < (M : Int) := by omega
            go_wp2_with fail
            refine (tick_any ⟨t, l, n⟩ _ b _ HQ.out.lt.lb HO2.out (by omega)).mono ?_
            rintro e W6 ⟨rfl, hl6, hk6⟩
            have H6 := Hid.intro' (HQ.out.ours hl6 hk6)
            have HO6 := Hid.intro' HO2.out.ti
            have n0 := HO2.out.n0
            have n1 := HO2.out.n1
            simp only at n0 n1
            clear hl6 hk6 HQ HO2 e0
            have d0 := H6.out.lt.rl.c0
            have d2 := H6.out.lt.rl.c2
            have g2 := H6.out.lt.rl.fr 2
            cases t with
            | true =>
              go_wp2
              have H7 := Hid.intro' (H6.out.theirs (H6.out.lt.rl.setN (n + 1)) ((Kb.refl _ _).set 2 _))
              clear H6 d0 d2 g2
              go_roundw
              case rel => exact ⟨i + 1, ⟨true, l, n + 1⟩, by omega, by go_num, H7, by have := HO6.out; rwa [show 127 * (k : Int) + ((i + 1 : Nat) : Int) = 127 * (k : Int) + (i : Int) + 1 by omega]⟩
              case measure => simp [intOf]; omega
            | false =>
              go_wp2
              clear d0 d2 g2
              go_roundw
              case rel => exact ⟨i + 1, ⟨false, l, n⟩, by omega, by go_num, H6, by have := HO6.out; rwa [show 127 * (k : Int) + ((i + 1 : Nat) : Int) = 127 * (k : Int) + (i : Int) + 1 by omega]⟩
              case measure => simp [intOf]; omega
          · have hiz : ¬ (i : Int) < (M : Int) := by omega
            have d0 := HQ.out.lt.rl.c0
            have d2 := HQ.out.lt.rl.c2
            go_wp2_with fail
            clear e0
            cases t with
            | true =>
              have HS : Hid (∀ W, LB W b ⟨true, l, n⟩ → Calls Try.prog 17 #[.pointer (some ⟨b, 0, none⟩)] W fun e w' => e = .returned (.int .i64 n) ∧ w' = W) := fun W h => silent_any ⟨true, l, n⟩ b W h
              have HR : Hid (∀ W, RL W (b + 1) ⟨true, l, n⟩ → Calls Try.prog 18 #[.pointer (some ⟨b + 1, 0, none⟩)] W fun e w' => e = .returned (.int .i64 n) ∧ w' = W) := fun W h => rsilent_any ⟨true, l, n⟩ (b + 1) W h
              have HV : Hid (∀ W, LB W b ⟨true, l, n⟩ → Calls Try.prog 19 #[.pointer (some ⟨b, 0, none⟩), .int .i64 tk] W fun e w' => e = .returned (.bool (decide (n < tk))) ∧ w' = W) := fun W h => by
                have := live_any ⟨true, l, n⟩ tk b W h
                rwa [li_t] at this
              go_quiet (first | (go_at_call 17; exact Calls.quiet_of_same (HS.out _ (HQ.out.drewN _).lt.lb)) | (go_at_call 18; exact Calls.quiet_of_same (HR.out _ (HQ.out.drewN _).lt.rl)) | (go_at_call 19; exact Calls.quiet_of_same (HV.out _ (HQ.out.drewN _).lt.lb)))
              have H6 := Hid.intro' (HQ.out.drewN nq)
              generalize wr.drewN nq = W6 at H6 ⊢
              clear HQ d0 d2 HS HR HV
              go_wp2_with fail
              have HO7 : Hid (LM.Ok (LM.tk ⟨true, l, n⟩ sq) (127 * ((k + 1 : Nat) : Int))) := (HO2.out.tk sq (by omega)).mono (by omega)
              have HTK : Hid (∀ W, LB W b ⟨true, l, n⟩ → Calls Try.prog 20 #[.pointer (some ⟨b, 0, none⟩), .int .i64 sq] W fun e w' => e = .returned (.int .i64 (LM.err ⟨true, l, n⟩ sq)) ∧ LB w' b (LM.tk ⟨true, l, n⟩ sq) ∧ Kb b W w') := fun W h => take_any ⟨true, l, n⟩ sq b W h
              have HRT : Hid (∀ W, RL W (b + 1) ⟨true, l, n⟩ → Calls Try.prog 21 #[.pointer (some ⟨b + 1, 0, none⟩), .int .i64 sq] W fun e w' => e = .returned (.int .i64 (LM.err ⟨true, l, n⟩ sq)) ∧ RL w' (b + 1) (LM.tk ⟨true, l, n⟩ sq) ∧ Kb (b + 1) W w') := fun W h => rtake_any ⟨true, l, n⟩ sq _ (b + 1) W h HO2.out
              generalize LM.err ⟨true, l, n⟩ sq = er at HTK HRT
              generalize LM.tk ⟨true, l, n⟩ sq = x7 at HTK HRT HO7
              have HS : Hid (∀ W, LB W b x7 → Calls Try.prog 17 #[.pointer (some ⟨b, 0, none⟩)] W fun e w' => e = .returned (.int .i64 (LM.si x7)) ∧ w' = W) := fun W h => silent_any x7 b W h
              have HR : Hid (∀ W, RL W (b + 1) x7 → Calls Try.prog 18 #[.pointer (some ⟨b + 1, 0, none⟩)] W fun e w' => e = .returned (.int .i64 (LM.si x7)) ∧ w' = W) := fun W h => rsilent_any x7 (b + 1) W h
              generalize LM.si x7 = z7 at HS HR
              have hm := H6.out.drew
              clear H6 HO2
              go_region_held3 (fun w' => w'.cell? ⟨c, 1, none⟩ = some (.int .i64 sq)) (first | exact hm.ac.c1 | exact hm1.ac.c1 | exact hm2.ac.c1) (first | (go_at_call 20; refine (HTK.out _ hm.lt.lb).mono ?_; rintro e W7 ⟨rfl, hl7, hk7⟩; have hm1 := La.ours hm hl7 hk7; clear hm) | (go_at_call 21; refine (HRT.out _ hm1.lt.rl).mono ?_; rintro e W8 ⟨rfl, hl8, hk8⟩; have hm2 := La.theirs hm1 hl8 hk8; clear hm1) | (go_at_call 17; refine (HS.out _ hm2.lt.lb).mono ?_; rintro e W9 ⟨rfl, hW⟩; subst hW) | (go_at_call 18; refine (HR.out _ hm2.lt.rl).mono ?_; rintro e W9 ⟨rfl, hW⟩; subst hW))
              have H8 := Hid.intro' hm2.lt
              clear hm2 hl7 hk7 hl8 hk8 HTK HRT HS HR
              go_wp2
              go_roundw
              case rel => exact ⟨k + 1, x7, by omega, by go_num, H8, HO7⟩
              case measure => simp [intOf]; omega
            | false =>
              have HS : Hid (∀ W, LB W b ⟨false, l, n⟩ → Calls Try.prog 17 #[.pointer (some ⟨b, 0, none⟩)] W fun e w' => e = .returned (.int .i64 (-1)) ∧ w' = W) := fun W h => silent_any ⟨false, l, n⟩ b W h
              have HR : Hid (∀ W, RL W (b + 1) ⟨false, l, n⟩ → Calls Try.prog 18 #[.pointer (some ⟨b + 1, 0, none⟩)] W fun e w' => e = .returned (.int .i64 (-1)) ∧ w' = W) := fun W h => rsilent_any ⟨false, l, n⟩ (b + 1) W h
              have HV : Hid (∀ W, LB W b ⟨false, l, n⟩ → Calls Try.prog 19 #[.pointer (some ⟨b, 0, none⟩), .int .i64 tk] W fun e w' => e = .returned (.bool (false)) ∧ w' = W) := fun W h => by
                have := live_any ⟨false, l, n⟩ tk b W h
                exact this
              go_quiet (first | (go_at_call 17; exact Calls.quiet_of_same (HS.out _ (HQ.out.drewN _).lt.lb)) | (go_at_call 18; exact Calls.quiet_of_same (HR.out _ (HQ.out.drewN _).lt.rl)) | (go_at_call 19; exact Calls.quiet_of_same (HV.out _ (HQ.out.drewN _).lt.lb)))
              have H6 := Hid.intro' (HQ.out.drewN nq)
              generalize wr.drewN nq = W6 at H6 ⊢
              clear HQ d0 d2 HS HR HV
              go_wp2_with fail
              have HO7 : Hid (LM.Ok (LM.tk ⟨false, l, n⟩ sq) (127 * ((k + 1 : Nat) : Int))) := (HO2.out.tk sq (by omega)).mono (by omega)
              have HTK : Hid (∀ W, LB W b ⟨false, l, n⟩ → Calls Try.prog 20 #[.pointer (some ⟨b, 0, none⟩), .int .i64 sq] W fun e w' => e = .returned (.int .i64 (LM.err ⟨false, l, n⟩ sq)) ∧ LB w' b (LM.tk ⟨false, l, n⟩ sq) ∧ Kb b W w') := fun W h => take_any ⟨false, l, n⟩ sq b W h
              have HRT : Hid (∀ W, RL W (b + 1) ⟨false, l, n⟩ → Calls Try.prog 21 #[.pointer (some ⟨b + 1, 0, none⟩), .int .i64 sq] W fun e w' => e = .returned (.int .i64 (LM.err ⟨false, l, n⟩ sq)) ∧ RL w' (b + 1) (LM.tk ⟨false, l, n⟩ sq) ∧ Kb (b + 1) W w') := fun W h => rtake_any ⟨false, l, n⟩ sq _ (b + 1) W h HO2.out
              generalize LM.err ⟨false, l, n⟩ sq = er at HTK HRT
              generalize LM.tk ⟨false, l, n⟩ sq = x7 at HTK HRT HO7
              have HS : Hid (∀ W, LB W b x7 → Calls Try.prog 17 #[.pointer (some ⟨b, 0, none⟩)] W fun e w' => e = .returned (.int .i64 (LM.si x7)) ∧ w' = W) := fun W h => silent_any x7 b W h
              have HR : Hid (∀ W, RL W (b + 1) x7 → Calls Try.prog 18 #[.pointer (some ⟨b + 1, 0, none⟩)] W fun e w' => e = .returned (.int .i64 (LM.si x7)) ∧ w' = W) := fun W h => rsilent_any x7 (b + 1) W h
              generalize LM.si x7 = z7 at HS HR
              have hm := H6.out.drew
              clear H6 HO2
              go_region_held3 (fun w' => w'.cell? ⟨c, 1, none⟩ = some (.int .i64 sq)) (first | exact hm.ac.c1 | exact hm1.ac.c1 | exact hm2.ac.c1) (first | (go_at_call 20; refine (HTK.out _ hm.lt.lb).mono ?_; rintro e W7 ⟨rfl, hl7, hk7⟩; have hm1 := La.ours hm hl7 hk7; clear hm) | (go_at_call 21; refine (HRT.out _ hm1.lt.rl).mono ?_; rintro e W8 ⟨rfl, hl8, hk8⟩; have hm2 := La.theirs hm1 hl8 hk8; clear hm1) | (go_at_call 17; refine (HS.out _ hm2.lt.lb).mono ?_; rintro e W9 ⟨rfl, hW⟩; subst hW) | (go_at_call 18; refine (HR.out _ hm2.lt.rl).mono ?_; rintro e W9 ⟨rfl, hW⟩; subst hW))
              have H8 := Hid.intro' hm2.lt
              clear hm2 hl7 hk7 hl8 hk8 HTK HRT HS HR
              go_wp2
              go_roundw
              case rel => exact ⟨k + 1, x7, by omega, by go_num, H8, HO7⟩
              case measure => simp [intOf]; omega
      · obtain rfl : k = len := by omega
        have hkz : ¬ (k : Int) < (k : Int) := by omega
        go_wp2
        go_ret
        exact ⟨rfl, HT.out.bel⟩

end Go.Proofs.Ytoigickgknbbfae
