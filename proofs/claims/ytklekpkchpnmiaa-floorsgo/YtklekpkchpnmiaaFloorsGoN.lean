/- The document's answer for the nearest floor, and for two lists that are one. -/
import Derived.Test.YtklekpkchpnmiaaFloorsGoM
import Derived.BigQuiet
namespace Go.Proofs.Ytklekpkchpnmiaa
open Go.RowKit

theorem near_ret {s : Nat} {f : Int} {r : Nat} (h : nearN s f = (r, true)) (i : Int) (hi : i = (r : Int)) : i = nearI s f := by
  unfold nearI; rw [h, hi]; rfl
theorem near_no {s : Nat} {f : Int} (h : nearN s f = (0, false)) : (-1 : Int) = nearI s f := by
  unfold nearI; rw [h]; rfl

set_option maxRecDepth 100000 in
set_option maxHeartbeats 2000000 in
theorem rnear_any (s : Nat) (f : Int) (w : World) (hs : s < 18446744073709551616) :
    Calls Try.prog 32 #[.int .u64 s, .int .i64 f] w fun e w' => e = .returned (.int .i64 (nearI s f)) ∧ Below w.heap.size w w' := by
  obtain ⟨c, hcl⟩ : ∃ c, c = clampF f := ⟨_, rfl⟩
  have hc63 : (c : Int) ≤ 63 := by have := clampF_lt f; omega
  have HCL := Hid.intro' hcl
  have key0 : (f < 0 ∧ Hid ((0 : Int) = (c : Int))) ∨ (¬ f < 0 ∧ 63 < f ∧ Hid ((63 : Int) = (c : Int))) ∨ (¬ f < 0 ∧ ¬ 63 < f ∧ Hid (f = (c : Int))) := by
    by_cases h1 : f < 0
    · exact .inl ⟨h1, Hid.intro' (by rw [hcl]; unfold clampF; rw [if_pos h1]; rfl)⟩
    · by_cases h2 : 63 < f
      · exact .inr (.inl ⟨h1, h2, Hid.intro' (by rw [hcl]; unfold clampF; rw [if_neg h1, if_pos h2]; rfl)⟩)
      · exact .inr (.inr ⟨h1, h2, Hid.intro' (by rw [hcl]; unfold clampF; rw [if_neg h1, if_neg h2]; omega)⟩)
  clear hcl
  rcases key0 with ⟨g1, E⟩ | ⟨g1, g2, E⟩ | ⟨g1, g2, E⟩
  all_goals
    go_enter Try.func32, Try.ntmps32
    go_wp2_with fail
    refine (rall_any s _ hs).mono ?_
    rintro e W1 ⟨rfl, hb1⟩
    have hzl : zb.length = 64 := by decide
    have hbl := bitsTo_length s 64
    have T0 := Hid.intro' (show (W1.alloc (.cells (bv zb).toArray 31)).there W1.heap.size 0 64 from by have := (ArrB.new W1).there; rw [hzl] at this; exact this)
    have HB1 := Hid.intro' hb1
    clear hb1 hzl
    go_wp2_with (first
      | (refine wpList_alloc31 W1.heap.size rfl rfl rfl ?_)
      | (refine wpList_store31 rfl _ _ rfl W1.heap.size (bitsTo s 64) rfl rfl T0.out hbl ?_))
    clear T0
    have HA := Hid.intro' ((ArrB.new W1).store (cs := bitsTo s 64) (by rw [hbl]; decide))
    have HB2 := Hid.intro' (show Below w.heap.size w ((W1.alloc (.cells (bv zb).toArray 31)).setCells W1.heap.size 0 (bv (bitsTo s 64))) from
      below_setCells W1.heap.size HB1.out.size _ 0 _ (HB1.out.alloc HB1.out.size _))
    clear HB1
    generalize (W1.alloc (.cells (bv zb).toArray 31)).setCells W1.heap.size 0 (bv (bitsTo s 64)) = W2 at HA HB2 ⊢
    generalize W1.heap.size = N at HA ⊢
    have hcell : ∀ i, i < 64 → W2.cell? ⟨N, i, none⟩ = some (.bool (s.testBit i)) := fun i hi => by
      rw [HA.out.cell i (by omega), bitsTo_get _ _ _ hi]; simp [hi]
    have HC := Hid.intro' hcell
    clear hcell HA
    refine (?_ : ∀ x : Int, Hid (x = (c : Int)) → Code.wp _ _ _ { tmps := #[_, .int .i64 x, _, _, .int .i64 0, _, .int .i64 0, _, _, _, _, _, _, _, _, _, _, _, _, _, _, _, _, _, _, _, _, _, _, _, _, _, _, _, _, _, _, _, _, _, _, _, _, _, _], defers := [] } _) _ E
    intro x Ex
    obtain rfl := Ex.out
    clear Ex
    dsimp only
    go_loop [6] (fun d => ∃ k : Nat, k ≤ 64 ∧ d = .int .i64 k ∧ NB s c k) (fun d => 64 - (intOf d).toNat)
    case atStart => exact ⟨0, Nat.zero_le _, rfl, nb_zero _ _⟩
    case round =>
      obtain ⟨k, hk, rfl, hnb⟩ := hrel
      have HN := Hid.intro' hnb
      clear hnb
      by_cases hlt : k < 64
      · have hltI : (k : Int) < 64 := by omega
        have key : (k ≤ c ∧ s.testBit (c - k) = true) ∨ ¬ (k ≤ c ∧ s.testBit (c - k) = true) := Classical.em _
        rcases key with ⟨h1, h2⟩ | h1
        · have hc := HC.out (c - k) (by omega)
          rw [h2] at hc
          have hle : (k : Int) ≤ (c : Int) := by omega
          have HR := Hid.intro' (near_ret (f := f) (r := c - k) (by have := near_low (f := f) (by rw [← HCL.out]; exact HN.out) (by rw [← HCL.out]; exact h1) (by rw [← HCL.out]; exact h2); rw [← HCL.out] at this; exact this) ((c : Int) - (k : Int)) (by omega))
          clear h2 HC
          go_wp2
          go_ret
          exact ⟨ret_int' HR.out, HB2.out⟩
        · have H1 := Hid.intro' h1
          have key2 : (c + k < 64 ∧ s.testBit (c + k) = true) ∨ ¬ (c + k < 64 ∧ s.testBit (c + k) = true) := Classical.em _
          rcases key2 with ⟨h3, h4⟩ | h3
          · have hc2 := HC.out (c + k) h3
            rw [h4] at hc2
            have HR := Hid.intro' (near_ret (f := f) (r := c + k) (by have := near_high (f := f) (by rw [← HCL.out]; exact HN.out) (by rw [← HCL.out]; exact h1) (by rw [← HCL.out]; exact h3) (by rw [← HCL.out]; exact h4); rw [← HCL.out] at this; exact this) ((c : Int) + (k : Int)) (by omega))
            have h3I : (c : Int) + (k : Int) < 64 := by omega
            by_cases hle : k ≤ c
            · have hc1 := HC.out (c - k) (by omega)
              have hf : s.testBit (c - k) = false := by
                cases hb : s.testBit (c - k)
                · rfl
                · exact absurd ⟨hle, hb⟩ h1
              rw [hf] at hc1
              have hleI : (k : Int) ≤ (c : Int) := by omega
              clear h4 HC hf h1
              go_wp2
              go_ret
              exact ⟨ret_int' HR.out, HB2.out⟩
            · have hg : decide (0 ≤ (c : Int) - (k : Int)) = false := by simp; omega
              clear h4 HC h1
              go_wp2
              go_ret
              exact ⟨ret_int' HR.out, HB2.out⟩
          · have HS := Hid.intro' (nb_succ HN.out h1 h3)
            have hc1 : k ≤ c → W2.cell? ⟨N, c - k, none⟩ = some (.bool false) := fun hle => by
              rw [HC.out (c - k) (by omega)]
              cases hb : s.testBit (c - k)
              · rfl
              · exact absurd ⟨hle, hb⟩ h1
            have hc2 : c + k < 64 → W2.cell? ⟨N, c + k, none⟩ = some (.bool false) := fun hle => by
              rw [HC.out (c + k) hle]
              cases hb : s.testBit (c + k)
              · rfl
              · exact absurd ⟨hle, hb⟩ h3
            clear HC h1 h3
            by_cases hle : k ≤ c
            · have hc1' := hc1 hle
              have hleI : (k : Int) ≤ (c : Int) := by omega
              clear hc1
              by_cases hlt2 : c + k < 64
              · have hc2' := hc2 hlt2
                have hlt2I : (c : Int) + (k : Int) < 64 := by omega
                clear hc2
                go_wp2
                go_round
                case rel => exact ⟨k + 1, by omega, by go_num, HS.out⟩
                case measure => simp [intOf]; omega
              · have hg2 : decide ((c : Int) + (k : Int) < 64) = false := by simp; omega
                clear hc2
                go_wp2
                go_round
                case rel => exact ⟨k + 1, by omega, by go_num, HS.out⟩
                case measure => simp [intOf]; omega
            · have hg : decide (0 ≤ (c : Int) - (k : Int)) = false := by simp; omega
              clear hc1
              by_cases hlt2 : c + k < 64
              · have hc2' := hc2 hlt2
                have hlt2I : (c : Int) + (k : Int) < 64 := by omega
                clear hc2
                go_wp2
                go_round
                case rel => exact ⟨k + 1, by omega, by go_num, HS.out⟩
                case measure => simp [intOf]; omega
              · have hg2 : decide ((c : Int) + (k : Int) < 64) = false := by simp; omega
                clear hc2
                go_wp2
                go_round
                case rel => exact ⟨k + 1, by omega, by go_num, HS.out⟩
                case measure => simp [intOf]; omega
      · obtain rfl : k = 64 := by omega
        have HR := Hid.intro' (near_no (near_none (f := f) (by rw [← HCL.out]; exact HN.out)))
        go_wp2
        go_ret
        exact ⟨ret_int' HR.out, HB2.out⟩

end Go.Proofs.Ytklekpkchpnmiaa
