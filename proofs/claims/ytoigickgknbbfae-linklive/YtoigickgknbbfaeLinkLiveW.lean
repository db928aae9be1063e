/- LinkLive: the walk. -/
import Derived.Test.YtoigickgknbbfaeLkO
namespace Go.Proofs.Ytoigickgknbbfae
open Go.RowKit

theorem li_yes {l n k : Int} (h : n < k) : LM.li ⟨true, l, n⟩ k = true := by simp [LM.li, h]
theorem li_no {l n k : Int} (h : k ≤ n) : LM.li ⟨true, l, n⟩ k = false := by simp [LM.li]; omega
theorem back_old {K D : Nat} {n : Int} (hD : D < 32768) : LM.err ⟨true, (K : Int), n⟩ (((K : Int) - D) % 65536) = 7 ∧ LM.tk ⟨true, (K : Int), n⟩ (((K : Int) - D) % 65536) = ⟨true, K, n⟩ := by
  have h : LM.err ⟨true, (K : Int), n⟩ (((K : Int) - D) % 65536) = 7 := by
    refine LM.err_old (by omega) (by omega) (LM.nw_not rfl ?_)
    show LM.ah K _ < 1 ∨ 32767 < LM.ah K _
    unfold LM.ah
    omega
  exact ⟨h, LM.tk_same (by rw [h]; decide)⟩
theorem next_new {K : Nat} {n : Int} : LM.err ⟨true, (K : Int), n⟩ (((K : Int) + 1) % 65536) = 0 ∧ LM.tk ⟨true, (K : Int), n⟩ (((K : Int) + 1) % 65536) = ⟨true, ((K : Int) + 1) % 65536, 0⟩ := by
  have h : LM.err ⟨true, (K : Int), n⟩ (((K : Int) + 1) % 65536) = 0 := by
    refine LM.err_new (by omega) (by omega) (LM.nw_ahead ?_ ?_)
    all_goals
      show _ ≤ _
      unfold LM.ah
      simp only
      omega
  exact ⟨h, LM.tk_new h⟩

set_option maxHeartbeats 4000000 in
theorem live_of (sq tk : Int) (ao : Option Addr) (len cap : Nat) (w : World) (hA : IS w ao len) :
    Calls Try.prog 7 #[.int .i64 sq, .int .i64 tk, .slice ao len cap] w fun e w' => e = .returned (.bool true) ∧ Below w.heap.size w w' := by
  obtain ⟨K, hK, eK⟩ := mask_ffff sq
  have HA := Hid.intro' hA
  have HK := Hid.intro' hK
  clear hA
  go_enter Try.func7, Try.ntmps7
  go_wp2_with fail
  refine (speaks_any _).mono ?_
  rintro e W1 ⟨rfl, hb1⟩
  have HB1 := Hid.intro' hb1
  clear hb1
  by_cases hl : 60 < len
  · have hz : (60 : Int) < (len : Int) := by omega
    go_wp2
    go_ret
    exact ⟨rfl, HB1.out⟩
  · have hz : ¬ (60 : Int) < (len : Int) := by omega
    by_cases ht : tk < 1
    · go_wp2
      go_ret
      exact ⟨rfl, HB1.out⟩
    · by_cases ht2 : 200 < tk
      · go_wp2
        go_ret
        exact ⟨rfl, HB1.out⟩
      · obtain ⟨T, rfl⟩ : ∃ T : Nat, tk = (T : Int) := ⟨tk.toNat, by omega⟩
        go_wp2_with fail
        refine (new_any _).mono ?_
        rintro e W2 ⟨rfl, hW⟩
        have H2 : Hid (Ls w W2 W1.heap.size LM.z) := by subst hW; exact Ls.new HB1.out
        clear hW HB1
        generalize W1.heap.size = b at H2 ⊢
        go_wp2_with fail
        refine (live_any LM.z _ b _ H2.out.lb).mono ?_
        rw [show LM.li LM.z T = false from rfl]
        rintro e W ⟨rfl, hW⟩
        subst hW
        go_wp2_with fail
        have ht3 := take_any LM.z K b _ H2.out.lb
        have e3 : LM.err LM.z K = 0 := LM.err_new (by omega) (by omega) (LM.nw_first _ rfl)
        rw [LM.tk_new e3, e3] at ht3
        refine ht3.mono ?_
        rintro e W3 ⟨rfl, hl3, hk3⟩
        have H3 := Hid.intro' (H2.out.upd hl3 hk3)
        clear hl3 hk3 H2 ht3 e3
        go_wp2
        go_loopw [8, 10] (fun i _ wr => ∃ (k : Nat), k ≤ T ∧ i = .int .i64 k ∧ Hid (Ls w wr b ⟨true, K, k⟩)) (fun i _ _ => T - (intOf i).toNat)
        case atStart => exact ⟨0, Nat.zero_le _, rfl, H3⟩
        case round =>
          obtain ⟨k, hk, rfl, HT⟩ := hrel
          by_cases hlt : k < T
          · have hkz : (k : Int) < (T : Int) := by omega
            go_wp2_with fail
            have hv := live_any ⟨true, K, k⟩ T b _ HT.out.lb
            rw [li_yes hkz] at hv
            refine hv.mono ?_
            rintro e W4 ⟨rfl, hW⟩
            subst hW
            clear hv
            go_wp2_with fail
            refine (silent_any ⟨true, K, k⟩ b _ HT.out.lb).mono ?_
            rw [show LM.si ⟨true, K, k⟩ = (k : Int) from rfl]
            rintro e W4 ⟨rfl, hW⟩
            subst hW
            go_wp2
            go_loopw [10, 53] (fun _ i wq => ∃ (q : Nat), q ≤ len ∧ i = .int .i64 q ∧ Hid (Ls w wq b ⟨true, K, k⟩)) (fun _ i _ => len - (intOf i).toNat)
            case atStart => exact ⟨0, Nat.zero_le _, rfl, HT⟩
            case round =>
              obtain ⟨q, hq, rfl, HQ⟩ := hrel
              by_cases hlt2 : q < len
              · have hqz : (q : Int) < (len : Int) := by omega
                obtain ⟨g, off, v, hao, hcell⟩ := HA.out.at HQ.out.bel hlt2
                have hix := fun W => ixI W (cap := cap) hao hlt2
                obtain ⟨D, hD, eD⟩ := mask_7fff v
                have eS : bits .and .i64 ((K : Int) - D) 65535 = ((K : Int) - D) % 65536 := i64_andffff _
                have HE := Hid.intro' (back_old (K := K) (n := k) hD)
                clear hao
                generalize ((K : Int) - D) % 65536 = s at eS HE
                go_wp2_with fail
                have hv := take_any ⟨true, K, k⟩ s b _ HQ.out.lb
                rw [HE.out.1, HE.out.2] at hv
                refine hv.mono ?_
                rintro e W5 ⟨rfl, hl5, hk5⟩
                have H5 := Hid.intro' (HQ.out.upd hl5 hk5)
                clear hl5 hk5 HQ hv hcell hix
                go_wp2
                go_roundw
                case rel => exact ⟨q + 1, by omega, by go_num, H5⟩
                case measure => simp [intOf]; omega
              · have hqz : ¬ (q : Int) < (len : Int) := by omega
                go_wp2_with fail
                refine (tick_any ⟨true, K, k⟩ k b _ HQ.out.lb ⟨by simp, by have := HK.out; simp; omega, by simp, by simp⟩ (by omega)).mono ?_
                rw [show LM.ti ⟨true, K, k⟩ = ⟨true, (K : Int), ((k + 1 : Nat) : Int)⟩ from rfl]
                rintro e W5 ⟨rfl, hl5, hk5⟩
                have H5 := Hid.intro' (HQ.out.upd hl5 hk5)
                clear hl5 hk5 HQ
                go_wp2
                go_roundw
                case rel => exact ⟨k + 1, by omega, by go_num, H5⟩
                case measure => simp [intOf]; omega
          · obtain rfl : k = T := by omega
            have hkz : ¬ (k : Int) < (k : Int) := by omega
            go_wp2_with fail
            have hv := live_any ⟨true, K, k⟩ k b _ HT.out.lb
            rw [li_no (Int.le_refl _)] at hv
            refine hv.mono ?_
            rintro e W4 ⟨rfl, hW⟩
            subst hW
            clear hv
            go_wp2_with fail
            have hv := live_any ⟨true, K, k⟩ (k + 1) b _ HT.out.lb
            rw [li_yes (by omega)] at hv
            refine hv.mono ?_
            rintro e W4 ⟨rfl, hW⟩
            subst hW
            clear hv
            have eS : bits .and .i64 ((K : Int) + 1) 65535 = ((K : Int) + 1) % 65536 := i64_andffff _
            have HE := Hid.intro' (next_new (K := K) (n := k))
            have hK2 := HK.out
            generalize ((K : Int) + 1) % 65536 = s at eS HE
            go_wp2_with fail
            have hv := take_any ⟨true, K, k⟩ s b _ HT.out.lb
            rw [HE.out.1, HE.out.2] at hv
            refine hv.mono ?_
            rintro e W5 ⟨rfl, hl5, hk5⟩
            have H5 := Hid.intro' (HT.out.upd hl5 hk5)
            clear hl5 hk5 HT hv
            go_wp2_with fail
            have hv := live_any ⟨true, s, 0⟩ 1 b _ H5.out.lb
            rw [li_yes (by omega)] at hv
            refine hv.mono ?_
            rintro e W6 ⟨rfl, hW⟩
            subst hW
            clear hv
            go_wp2
            go_ret
            exact ⟨rfl, H5.out.bel⟩

end Go.Proofs.Ytoigickgknbbfae
