/- The walk of the law SiteTold. -/
import Derived.Test.YtdkhobhffdgliabSiteX
namespace Go.Proofs.Ytdkhobhffdgliab
open Go.RowKit

set_option maxRecDepth 100000 in
set_option maxHeartbeats 2000000 in
theorem told_of (s : St) (a b h : Int) (w : World) :
    Calls Try.prog 3 #[.agg (sv s).toArray, .int .i64 a, .int .i64 b, .int .i64 h] w fun e w' => e = .returned (.bool true) ∧ Below w.heap.size w w' := by
  have HB : Hid (Below w.heap.size w (w.alloc (.cells (sv s).toArray 23))) := Hid.intro' ((Below.refl _ w).alloc (Nat.le_refl _) _)
  have HN := Hid.intro' (SB.new w s)
  go_enter Try.func3, Try.ntmps3
  go_wp2_with fail
  obtain ⟨B, hB⟩ : ∃ B, w.heap.size = B := ⟨_, rfl⟩
  rw [show Value.pointer (some ⟨w.heap.size, 0, none⟩) = Value.pointer (some ⟨B, 0, none⟩) by rw [hB]]
  rw [hB] at HN
  refine (speaks_any _).mono ?_
  rintro e W1 ⟨rfl, hb⟩
  have HS := Hid.intro' (SB.below' HN.out hb)
  have HB1 := Hid.intro' (below_class HB.out hb)
  clear hb HN HB
  go_wp2_with fail
  have hs : ∀ w', Below W1.heap.size W1 w' → SB w' B s := fun w' h' => HS.out.below' h'
  by_cases hr : SM.Rt s
  · refine wp_region_quiet (C := fun w' => Below W1.heap.size W1 w') (by kernel_rfl) (by kernel_rfl) ((Below.refl _ W1).drew) ?_
    simp only []
    refine wpQuiet_load23 _ B s rfl rfl rfl hs ?_
    refine wpQuiet_step (fun K hK => ?_)
    go_simp
    refine ⟨_, fun w' hw => (right_t s hr w').mono fun e w'' hh => ⟨hh.1, below_class hw hh.2⟩, hK _ ?_⟩
    clear hK K
    refine wpQuiet_load23 _ B s rfl rfl rfl hs ?_
    refine wpQuiet_step (fun K hK => ?_)
    go_simp
    refine ⟨_, fun w' hw => (rright_t s hr w').mono fun e w'' hh => ⟨hh.1, below_class hw hh.2⟩, hK _ ?_⟩
    clear hK K
    refine wpQuiet_step (fun K hK => ?_)
    go_simp
    refine ⟨_, fun _ _ => rfl, hK _ ?_⟩
    clear hK K
    refine wpQuiet_nil ?_
    intro W2 hb
    have HS2 := Hid.intro' (SB.below' HS.out hb)
    have HB2 := Hid.intro' (below_class HB1.out hb)
    clear hb HS HB1 hs
    go_wp2_with (refine wpList_load23 rfl _ rfl B s rfl HS2.out ?_)
    refine (rright_t s hr _).mono ?_
    rintro e W3 ⟨rfl, hb⟩
    have HS3 := Hid.intro' (SB.below' HS2.out hb)
    have HB3 := Hid.intro' (below_class HB2.out hb)
    clear hb HS2 HB2
    go_wp2_with (refine wpList_load23 rfl _ rfl B s rfl HS3.out ?_)
    obtain ⟨n, hn⟩ : ∃ n : Nat, s.fl = (n : Int) := ⟨s.fl.toNat, by have := hr.fl1; omega⟩
    refine (table_any s hr n hn _).mono ?_
    rintro e W4 ⟨⟨G, C, rfl, hG, hT⟩, hb⟩
    have n1 : 2 ≤ n := by have := hr.fl1; omega
    have n2 : n ≤ 64 := by have := hr.fl2; omega
    have HFL := Hid.intro' hn
    have HS4 := Hid.intro' (SB.below' HS3.out hb)
    have HB4 := Hid.intro' (below_class HB3.out hb)
    have HG := Hid.intro' hG
    have HT := Hid.intro' hT
    have hc0 : W4.cell? ⟨B, 0, none⟩ = some (.int .i64 (n : Int)) := by rw [← HFL.out]; exact HS4.out.c0
    clear hb HS3 HB3 hG hT hn
    go_wp2
    obtain ⟨R0, hR0⟩ : ∃ R0, W4.heap.size = R0 := ⟨_, rfl⟩
    rw [hR0] at HT
    clear hc0
    go_loopw [31] (fun i wr => ∃ k : Nat, k ≤ n ∧ i = .int .i64 k ∧ Blk wr G C 28 ∧ Tab s n G n R0 C wr ∧ SB wr B s ∧ Below w.heap.size w wr) (fun i _ => n - (intOf i).toNat)
    case atStart => exact ⟨0, by omega, rfl, HG.out, HT.out, HS4.out, HB4.out⟩
    case round =>
      obtain ⟨k, hk, rfl, hG, hT, hS, hBw⟩ := hrel
      clear HG HT HS4 HB4 hR0
      by_cases hlt : k < n
      · have hkI : (k : Int) < (n : Int) := by omega
        have hk0 : (0 : Int) ≤ (k : Int) := by omega
        obtain ⟨R, D, _, _, hCk, hR, hrow⟩ := hT k hlt
        have HS := Hid.intro' hS
        have HG := Hid.intro' hG
        have HT := Hid.intro' hT
        have HBw := Hid.intro' hBw
        have HR := Hid.intro' hR
        have HRow := Hid.intro' hrow
        have HCk := Hid.intro' hCk
        clear hS hG hT hBw hR hrow hCk
        go_wp2_with fail
        have hcg : ∀ w', Below wr.heap.size wr w' → w'.cell? ⟨G, k, none⟩ = some (.slice (some ⟨R, 0, none⟩) n n) := fun w' h' => ((HG.out.below h').cell k).trans HCk.out
        have hfl : ∀ w', Below wr.heap.size wr w' → w'.cell? ⟨B, 0, none⟩ = some (.int .i64 (n : Int)) := fun w' h' => by rw [← HFL.out]; exact (HS.out.below' h').c0
        refine wp_region_quiet (C := fun w' => Below wr.heap.size wr w') (by kernel_rfl) (by kernel_rfl) ((Below.refl _ wr).drew) ?_
        simp only []
        refine wpQuiet_step (fun K hK => ?_)
        go_simp
        refine ⟨_, fun _ _ => rfl, hK _ ?_⟩
        clear hK K
        refine wpQuiet_step (fun K hK => ?_)
        go_simp
        refine ⟨_, fun _ _ => rfl, hK _ ?_⟩
        clear hK K
        refine wpQuiet_step (fun K hK => ?_)
        go_simp
        refine ⟨_, fun _ _ => rfl, hK _ ?_⟩
        clear hK K
        refine wpQuiet_load28 _ _ _ _ rfl rfl rfl hcg ?_
        refine wpQuiet_step (fun K hK => ?_)
        go_simp
        refine ⟨_, fun _ _ => rfl, hK _ ?_⟩
        clear hK K
        refine wpQuiet_step (fun K hK => ?_)
        go_simp
        refine ⟨_, fun _ _ => rfl, hK _ ?_⟩
        clear hK K
        refine wpQuiet_load3 _ _ _ _ rfl rfl rfl hfl ?_
        refine wpQuiet_step (fun K hK => ?_)
        go_simp
        refine ⟨_, fun _ _ => rfl, hK _ ?_⟩
        clear hK K
        refine wpQuiet_nil ?_
        intro W5 hb
        have HS5 := Hid.intro' (SB.below' HS.out hb)
        have HG5 := Hid.intro' (Blk.below HG.out hb)
        have HT5 := Hid.intro' (Tab.below HT.out hb)
        have HR5 := Hid.intro' (Blk.below HR.out hb)
        have HB5 := Hid.intro' (below_class HBw.out hb)
        clear hb HS HG HT HR HBw hcg hfl
        have hcg : W5.cell? ⟨G, k, none⟩ = some (.slice (some ⟨R, 0, none⟩) n n) := (HG5.out.cell k).trans HCk.out
        go_wp2
        clear hcg
        go_loopw [47] (fun i wr => ∃ j : Nat, j ≤ n ∧ i = .int .i64 j ∧ Blk wr R D 3 ∧ Blk wr G C 28 ∧ Tab s n G n R0 C wr ∧ SB wr B s ∧ Below w.heap.size w wr) (fun i _ => n - (intOf i).toNat)
        case atStart => exact ⟨0, by omega, rfl, HR5.out, HG5.out, HT5.out, HS5.out, HB5.out⟩
        case round =>
          obtain ⟨j, hj, rfl, hR, hG, hT, hS, hBw⟩ := hrel
          clear HS5 HG5 HT5 HR5 HB5
          have HS := Hid.intro' hS
          have HG := Hid.intro' hG
          have HT := Hid.intro' hT
          have HBw := Hid.intro' hBw
          have HR := Hid.intro' hR
          clear hS hG hT hBw hR
          by_cases hjn : j < n
          · have hjI : (j : Int) < (n : Int) := by omega
            have hj0 : (0 : Int) ≤ (j : Int) := by omega
            go_wp2_with fail
            have hs : ∀ w', Below wr.heap.size wr w' → SB w' B s := fun w' h' => HS.out.below' h'
            have hcg : ∀ w', Below wr.heap.size wr w' → w'.cell? ⟨G, k, none⟩ = some (.slice (some ⟨R, 0, none⟩) n n) := fun w' h' => ((HG.out.below h').cell k).trans HCk.out
            have hcr : ∀ w', Below wr.heap.size wr w' → w'.cell? ⟨R, j, none⟩ = some (.int .i64 (SM.trav s k j)) := fun w' h' => ((HR.out.below h').cell j).trans (HRow.out j hjn)
            refine wp_region_quiet (C := fun w' => Below wr.heap.size wr w') (by kernel_rfl) (by kernel_rfl) ((Below.refl _ wr).drew) ?_
            simp only []
            refine wpQuiet_step (fun K hK => ?_)
            go_simp
            refine ⟨_, fun _ _ => rfl, hK _ ?_⟩
            clear hK K
            refine wpQuiet_step (fun K hK => ?_)
            go_simp
            refine ⟨_, fun _ _ => rfl, hK _ ?_⟩
            clear hK K
            refine wpQuiet_step (fun K hK => ?_)
            go_simp
            refine ⟨_, fun _ _ => rfl, hK _ ?_⟩
            clear hK K
            refine wpQuiet_load28 _ _ _ _ rfl rfl rfl hcg ?_
            refine wpQuiet_step (fun K hK => ?_)
            go_simp
            refine ⟨_, fun _ _ => rfl, hK _ ?_⟩
            clear hK K
            refine wpQuiet_step (fun K hK => ?_)
            go_simp
            refine ⟨_, fun _ _ => rfl, hK _ ?_⟩
            clear hK K
            refine wpQuiet_load3 _ _ _ _ rfl rfl rfl hcr ?_
            refine wpQuiet_load23 _ B s rfl rfl rfl hs ?_
            refine wpQuiet_step (fun K hK => ?_)
            go_simp
            refine ⟨_, fun _ _ => rfl, hK _ ?_⟩
            clear hK K
            refine wpQuiet_step (fun K hK => ?_)
            go_simp
            refine ⟨_, fun _ _ => rfl, hK _ ?_⟩
            clear hK K
            refine wpQuiet_step (fun K hK => ?_)
            go_simp
            refine ⟨_, fun w' hw => (rtravel_any s hr _ _ w').mono fun e w'' hh => ⟨hh.1, below_class hw hh.2⟩, hK _ ?_⟩
            clear hK K
            refine wpQuiet_step (fun K hK => ?_)
            go_simp
            refine ⟨_, fun _ _ => rfl, hK _ ?_⟩
            clear hK K
            refine wpQuiet_nil ?_
            intro W6 hb
            have HS6 := Hid.intro' (SB.below' HS.out hb)
            have HG6 := Hid.intro' (Blk.below HG.out hb)
            have HT6 := Hid.intro' (Tab.below HT.out hb)
            have HR6 := Hid.intro' (Blk.below HR.out hb)
            have HB6 := Hid.intro' (below_class HBw.out hb)
            clear hb HS HG HT HR HBw hcg hcr hs
            go_wp2
            go_roundw
            case rel => exact ⟨j + 1, by omega, by go_num, HR6.out, HG6.out, HT6.out, HS6.out, HB6.out⟩
            case measure => simp [intOf]; omega
          · obtain rfl : j = n := by omega
            go_wp2
            go_roundw
            case rel => exact ⟨k + 1, by omega, by go_num, HG.out, HT.out, HS.out, HBw.out⟩
            case measure => simp [intOf]; omega
      · obtain rfl : k = n := by omega
        have HS := Hid.intro' hS
        have HBw := Hid.intro' hBw
        clear hG hT hS hBw
        go_wp2_with fail
        have hs : ∀ w', Below wr.heap.size wr w' → SB w' B s := fun w' h' => HS.out.below' h'
        refine wp_region_quiet (C := fun w' => Below wr.heap.size wr w') (by kernel_rfl) (by kernel_rfl) ((Below.refl _ wr).drew) ?_
        simp only []
        refine wpQuiet_load23 _ B s rfl rfl rfl hs ?_
        refine wpQuiet_step (fun K hK => ?_)
        go_simp
        refine ⟨_, fun _ _ => rfl, hK _ ?_⟩
        clear hK K
        refine wpQuiet_step (fun K hK => ?_)
        go_simp
        refine ⟨_, fun _ _ => rfl, hK _ ?_⟩
        clear hK K
        refine wpQuiet_step (fun K hK => ?_)
        go_simp
        refine ⟨_, fun w' hw => (travel_any s hr _ _ w').mono fun e w'' hh => ⟨hh.1, below_class hw hh.2⟩, hK _ ?_⟩
        clear hK K
        refine wpQuiet_load23 _ B s rfl rfl rfl hs ?_
        refine wpQuiet_step (fun K hK => ?_)
        go_simp
        refine ⟨_, fun _ _ => rfl, hK _ ?_⟩
        clear hK K
        refine wpQuiet_step (fun K hK => ?_)
        go_simp
        refine ⟨_, fun _ _ => rfl, hK _ ?_⟩
        clear hK K
        refine wpQuiet_step (fun K hK => ?_)
        go_simp
        refine ⟨_, fun w' hw => (rtravel_any s hr _ _ w').mono fun e w'' hh => ⟨hh.1, below_class hw hh.2⟩, hK _ ?_⟩
        clear hK K
        refine wpQuiet_step (fun K hK => ?_)
        go_simp
        refine ⟨_, fun _ _ => rfl, hK _ ?_⟩
        clear hK K
        refine wpQuiet_step (fun K hK => ?_)
        go_simp
        refine ⟨_, fun _ _ => rfl, hK _ ?_⟩
        clear hK K
        refine wpQuiet_load23 _ B s rfl rfl rfl hs ?_
        refine wpQuiet_step (fun K hK => ?_)
        go_simp
        refine ⟨_, fun _ _ => rfl, hK _ ?_⟩
        clear hK K
        refine wpQuiet_step (fun K hK => ?_)
        go_simp
        refine ⟨_, fun w' hw => (service_any s hr _ w').mono fun e w'' hh => ⟨hh.1, below_class hw hh.2⟩, hK _ ?_⟩
        clear hK K
        refine wpQuiet_load23 _ B s rfl rfl rfl hs ?_
        refine wpQuiet_step (fun K hK => ?_)
        go_simp
        refine ⟨_, fun _ _ => rfl, hK _ ?_⟩
        clear hK K
        refine wpQuiet_step (fun K hK => ?_)
        go_simp
        refine ⟨_, fun w' hw => (rservice_any s hr _ w').mono fun e w'' hh => ⟨hh.1, below_class hw hh.2⟩, hK _ ?_⟩
        clear hK K
        refine wpQuiet_step (fun K hK => ?_)
        go_simp
        refine ⟨_, fun _ _ => rfl, hK _ ?_⟩
        clear hK K
        refine wpQuiet_step (fun K hK => ?_)
        go_simp
        refine ⟨_, fun _ _ => rfl, hK _ ?_⟩
        clear hK K
        refine wpQuiet_step (fun K hK => ?_)
        go_simp
        refine ⟨_, fun _ _ => rfl, hK _ ?_⟩
        clear hK K
        refine wpQuiet_load23 _ B s rfl rfl rfl hs ?_
        refine wpQuiet_step (fun K hK => ?_)
        go_simp
        refine ⟨_, fun _ _ => rfl, hK _ ?_⟩
        clear hK K
        refine wpQuiet_step (fun K hK => ?_)
        go_simp
        refine ⟨_, fun w' hw => (bound_any s hr _ w').mono fun e w'' hh => ⟨hh.1, below_class hw hh.2⟩, hK _ ?_⟩
        clear hK K
        refine wpQuiet_load23 _ B s rfl rfl rfl hs ?_
        refine wpQuiet_step (fun K hK => ?_)
        go_simp
        refine ⟨_, fun _ _ => rfl, hK _ ?_⟩
        clear hK K
        refine wpQuiet_step (fun K hK => ?_)
        go_simp
        refine ⟨_, fun w' hw => (rbound_any s hr _ w').mono fun e w'' hh => ⟨hh.1, below_class hw hh.2⟩, hK _ ?_⟩
        clear hK K
        refine wpQuiet_step (fun K hK => ?_)
        go_simp
        refine ⟨_, fun _ _ => rfl, hK _ ?_⟩
        clear hK K
        refine wpQuiet_step (fun K hK => ?_)
        go_simp
        refine ⟨_, fun _ _ => rfl, hK _ ?_⟩
        clear hK K
        refine wpQuiet_step (fun K hK => ?_)
        go_simp
        refine ⟨_, fun _ _ => rfl, hK _ ?_⟩
        clear hK K
        refine wpQuiet_nil ?_
        intro W7 hb
        have HB7 := Hid.intro' (below_class HBw.out hb)
        clear hb HS HBw hs
        go_wp2
        go_ret
        exact ⟨rfl, HB7.out⟩
  · refine wp_region_quiet (C := fun w' => Below W1.heap.size W1 w') (by kernel_rfl) (by kernel_rfl) ((Below.refl _ W1).drew) ?_
    simp only []
    refine wpQuiet_load23 _ B s rfl rfl rfl hs ?_
    refine wpQuiet_step (fun K hK => ?_)
    go_simp
    refine ⟨_, fun w' hw => (right_f s hr w').mono fun e w'' hh => ⟨hh.1, below_class hw hh.2⟩, hK _ ?_⟩
    clear hK K
    refine wpQuiet_load23 _ B s rfl rfl rfl hs ?_
    refine wpQuiet_step (fun K hK => ?_)
    go_simp
    refine ⟨_, fun w' hw => (rright_f s hr w').mono fun e w'' hh => ⟨hh.1, below_class hw hh.2⟩, hK _ ?_⟩
    clear hK K
    refine wpQuiet_step (fun K hK => ?_)
    go_simp
    refine ⟨_, fun _ _ => rfl, hK _ ?_⟩
    clear hK K
    refine wpQuiet_nil ?_
    intro W2 hb
    have HS2 := Hid.intro' (SB.below' HS.out hb)
    have HB2 := Hid.intro' (below_class HB1.out hb)
    clear hb HS HB1 hs
    go_wp2_with (refine wpList_load23 rfl _ rfl B s rfl HS2.out ?_)
    refine (rright_f s hr _).mono ?_
    rintro e W3 ⟨rfl, hb⟩
    have HB3 := Hid.intro' (below_class HB2.out hb)
    clear hb HS2 HB2
    go_wp2
    go_ret
    exact ⟨rfl, HB3.out⟩

end Go.Proofs.Ytdkhobhffdgliab
