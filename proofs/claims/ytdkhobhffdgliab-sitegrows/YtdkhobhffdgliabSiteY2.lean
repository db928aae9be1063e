/- The walk of the law SiteGrows, a case of its switch at a time. -/
import Derived.Test.YtdkhobhffdgliabSiteX
import Derived.Test.YtdkhobhffdgliabSiteG
namespace Go.Proofs.Ytdkhobhffdgliab
open Go.RowKit

set_option maxRecDepth 100000 in
set_option maxHeartbeats 4000000 in
theorem grows_2 (s : St) (hr : SM.Rt s) (a h : Int) (k0 : (bits BinOp.and IntKind.i64 a 7 == 0) = false) (k1 : (bits BinOp.and IntKind.i64 a 7 == 1) = false) (k2 : (bits BinOp.and IntKind.i64 a 7 == 2) = true) (w : World) :
    Calls Try.prog 5 #[.agg (sv s).toArray, .int .i64 a, .int .i64 h] w fun e w' => e = .returned (.bool true) ∧ Below w.heap.size w w' := by
  have HB : Hid (Below w.heap.size w (w.alloc (.cells (sv s).toArray 23))) := Hid.intro' ((Below.refl _ w).alloc (Nat.le_refl _) _)
  have HN := Hid.intro' (SB.new w s)
  obtain ⟨t, ht0⟩ : ∃ t : St, t = { s with sto := s.sto + 1 } := ⟨_, rfl⟩
  have hg : SM.Grow s t := by subst ht0; constructor <;> simp <;> omega
  have HG0 := Hid.intro' hg
  have HT0 := Hid.intro' ht0
  clear hg ht0
  go_enter Try.func5, Try.ntmps5
  go_wp2_with fail
  obtain ⟨B, hB⟩ : ∃ B, w.heap.size = B := ⟨_, rfl⟩
  rw [show Value.pointer (some ⟨w.heap.size, 0, none⟩) = Value.pointer (some ⟨B, 0, none⟩) by rw [hB]]
  rw [hB] at HN
  refine (speaks_any _).mono ?_
  rintro e W1 ⟨rfl, hb⟩
  have HS := Hid.intro' (SB.below' HN.out hb)
  have HB1 := Hid.intro' (below_class HB.out hb)
  clear hb HN HB
  go_wp2_with (refine wpList_load23 rfl _ rfl B s rfl HS.out ?_)
  refine (rright_t s hr _).mono ?_
  rintro e W2 ⟨rfl, hb⟩
  have HS2 := Hid.intro' (SB.below' HS.out hb)
  have HB2 := Hid.intro' (below_class HB1.out hb)
  clear hb HS HB1
  have hc0 : W2.cell? ⟨B, 0, none⟩ = some (.int .i64 s.fl) := HS2.out.cell 0
  have hc1 : W2.cell? ⟨B, 1, none⟩ = some (.int .i64 s.ca) := HS2.out.cell 1
  have hc2 : W2.cell? ⟨B, 2, none⟩ = some (.int .i64 s.sta) := HS2.out.cell 2
  have hc3 : W2.cell? ⟨B, 3, none⟩ = some (.int .i64 s.ste) := HS2.out.cell 3
  have hc4 : W2.cell? ⟨B, 4, none⟩ = some (.int .i64 s.sto) := HS2.out.cell 4
  have hc5 : W2.cell? ⟨B, 5, none⟩ = some (.int .i64 s.opn) := HS2.out.cell 5
  have hc6 : W2.cell? ⟨B, 6, none⟩ = some (.int .i64 s.wai) := HS2.out.cell 6
  have hc7 : W2.cell? ⟨B, 7, none⟩ = some (.int .i64 s.clo) := HS2.out.cell 7
  have hc8 : W2.cell? ⟨B, 8, none⟩ = some (.int .i64 s.nud) := HS2.out.cell 8
  have hc9 : W2.cell? ⟨B, 9, none⟩ = some (.int .i64 s.age) := HS2.out.cell 9
  have hc10 : W2.cell? ⟨B, 10, none⟩ = some (.int .i64 s.sil) := HS2.out.cell 10
  have hc11 : W2.cell? ⟨B, 11, none⟩ = some (.int .i64 s.bud) := HS2.out.cell 11
  have hc12 : W2.cell? ⟨B, 12, none⟩ = some (.int .i64 s.per) := HS2.out.cell 12
  have f1 := hr.sto1
  have f2 := hr.sto2
  go_wp2_with fail
  have HS3 := Hid.intro' (HS2.out.alloc (.cells (sv t).toArray 23))
  have HT3 := Hid.intro' (SB.new W2 t)
  have HB3 := Hid.intro' (HB2.out.alloc HB2.out.size (.cells (sv t).toArray 23))
  have hBT : B < W2.heap.size := HS2.out.lt
  clear hc0 hc1 hc2 hc3 hc4 hc5 hc6 hc7 hc8 hc9 hc10 hc11 hc12 HS2 HB2
  by_cases hrt : SM.Rt t
  · have c1 := right_t t hrt (W2.alloc (.cells (sv t).toArray 23))
    rw [show sv t = sv { s with sto := s.sto + 1 } by rw [HT0.out]] at c1 HS3 HT3 HB3
    refine c1.mono ?_
    clear c1
    rintro e W4 ⟨rfl, hb⟩
    rw [show sv { s with sto := s.sto + 1 } = sv t by rw [HT0.out]] at HS3 HT3 HB3 hb
    have HS4 := Hid.intro' (SB.below' HS3.out hb)
    have HT4 := Hid.intro' (SB.below' HT3.out hb)
    have HB4 := Hid.intro' (below_class HB3.out hb)
    clear hb HS3 HT3 HB3
    obtain ⟨T, hT⟩ : ∃ T, W2.heap.size = T := ⟨_, rfl⟩
    rw [hT] at HT4 hBT
    rw [show Value.pointer (some ⟨W2.heap.size, 0, none⟩) = Value.pointer (some ⟨T, 0, none⟩) by rw [hT]]
    go_wp2_with fail
    have hs : ∀ w', Below W4.heap.size W4 w' → SB w' B s := fun w' h' => HS4.out.below' h'
    have ht : ∀ w', Below W4.heap.size W4 w' → SB w' T t := fun w' h' => HT4.out.below' h'
    have t1 : decide (SM.ser t h < SM.ser s h) = false := by have := SM.ser_grows HG0.out hr h; simp; omega
    have t2 : decide (SM.bou t h ≤ SM.bou s h) = false := by have := SM.bou_grows HG0.out hr h; simp; omega
    refine wp_region_quiet (C := fun w' => Below W4.heap.size W4 w') (by kernel_rfl) (by kernel_rfl) ((Below.refl _ W4).drew) ?_
    simp only []
    refine wpQuiet_load23 _ T t rfl rfl rfl ht ?_
    refine wpQuiet_step (fun K hK => ?_)
    go_simp
    refine ⟨_, fun _ _ => rfl, hK _ ?_⟩
    clear hK K
    refine wpQuiet_step (fun K hK => ?_)
    go_simp
    refine ⟨_, fun w' hw => (service_any t hrt _ w').mono fun e w'' hh => ⟨hh.1, below_class hw hh.2⟩, hK _ ?_⟩
    clear hK K
    refine wpQuiet_load23 _ B s rfl rfl rfl hs ?_
    refine wpQuiet_step (fun K hK => ?_)
    go_simp
    refine ⟨_, fun _ _ => rfl, hK _ ?_⟩
    clear hK K
    refine wpQuiet_step (fun K hK => ?_)
    go_simp
    refine ⟨_, fun w' hw => (service_any s hr _ w').mono fun e w'' hh => ⟨hh.1, below_class hw hh.2⟩, hK _ ?_⟩
    clear hK K
    refine wpQuiet_step (fun K hK => ?_)
    go_simp
    refine ⟨_, fun _ _ => rfl, hK _ ?_⟩
    clear hK K
    refine wpQuiet_step (fun K hK => ?_)
    go_simp
    refine ⟨_, fun _ _ => rfl, hK _ ?_⟩
    clear hK K
    refine wpQuiet_load23 _ T t rfl rfl rfl ht ?_
    refine wpQuiet_step (fun K hK => ?_)
    go_simp
    refine ⟨_, fun _ _ => rfl, hK _ ?_⟩
    clear hK K
    refine wpQuiet_step (fun K hK => ?_)
    go_simp
    refine ⟨_, fun w' hw => (bound_any t hrt _ w').mono fun e w'' hh => ⟨hh.1, below_class hw hh.2⟩, hK _ ?_⟩
    clear hK K
    refine wpQuiet_load23 _ B s rfl rfl rfl hs ?_
    refine wpQuiet_step (fun K hK => ?_)
    go_simp
    refine ⟨_, fun _ _ => rfl, hK _ ?_⟩
    clear hK K
    refine wpQuiet_step (fun K hK => ?_)
    go_simp
    refine ⟨_, fun w' hw => (bound_any s hr _ w').mono fun e w'' hh => ⟨hh.1, below_class hw hh.2⟩, hK _ ?_⟩
    clear hK K
    refine wpQuiet_step (fun K hK => ?_)
    go_simp
    refine ⟨_, fun _ _ => rfl, hK _ ?_⟩
    clear hK K
    refine wpQuiet_step (fun K hK => ?_)
    go_simp
    refine ⟨_, fun _ _ => rfl, hK _ ?_⟩
    clear hK K
    refine wpQuiet_nil ?_
    intro W5 hb
    have HS5 := Hid.intro' (SB.below' HS4.out hb)
    have HT5 := Hid.intro' (SB.below' HT4.out hb)
    have HB5 := Hid.intro' (below_class HB4.out hb)
    clear hb HS4 HT4 HB4 hs ht t1 t2
    go_wp2_with (refine wpList_load23 rfl _ rfl B s rfl HS5.out ?_)
    obtain ⟨n, hn⟩ : ∃ n : Nat, s.fl = (n : Int) := ⟨s.fl.toNat, by have := hr.fl1; omega⟩
    refine (table_any s hr n hn _).mono ?_
    rintro e W6 ⟨⟨G, C, rfl, hG, hTb⟩, hb⟩
    have n1 : 2 ≤ n := by have := hr.fl1; omega
    have n2 : n ≤ 64 := by have := hr.fl2; omega
    have HFL := Hid.intro' hn
    have HS6 := Hid.intro' (SB.below' HS5.out hb)
    have HT6 := Hid.intro' (SB.below' HT5.out hb)
    have HB6 := Hid.intro' (below_class HB5.out hb)
    have HG := Hid.intro' hG
    have HTb := Hid.intro' hTb
    clear hb HS5 HT5 HB5 hG hTb hn
    go_wp2
    obtain ⟨R0, hR0⟩ : ∃ R0, W6.heap.size = R0 := ⟨_, rfl⟩
    rw [hR0] at HTb
    go_loopw [88] (fun i wr => ∃ k : Nat, k ≤ n ∧ i = .int .i64 k ∧ Blk wr G C 28 ∧ Tab s n G n R0 C wr ∧ SB wr B s ∧ SB wr T t ∧ Below w.heap.size w wr) (fun i _ => n - (intOf i).toNat)
    case atStart => exact ⟨0, by omega, rfl, HG.out, HTb.out, HS6.out, HT6.out, HB6.out⟩
    case round =>
      obtain ⟨k, hk, rfl, hG, hTb, hS, hTt, hBw⟩ := hrel
      clear HG HTb HS6 HT6 HB6 hR0
      by_cases hlt : k < n
      · have hkI : (k : Int) < (n : Int) := by omega
        have hk0 : (0 : Int) ≤ (k : Int) := by omega
        obtain ⟨R, D, _, _, hCk, hR, hrow⟩ := hTb k hlt
        have HS := Hid.intro' hS
        have HTt := Hid.intro' hTt
        have HG := Hid.intro' hG
        have HTb := Hid.intro' hTb
        have HBw := Hid.intro' hBw
        have HR := Hid.intro' hR
        have HRow := Hid.intro' hrow
        have HCk := Hid.intro' hCk
        have hcg : wr.cell? ⟨G, k, none⟩ = some (.slice (some ⟨R, 0, none⟩) n n) := (hG.cell k).trans hCk
        clear hS hTt hG hTb hBw hR hrow hCk
        go_wp2
        clear hcg
        go_loopw [96] (fun i wr => ∃ j : Nat, j ≤ n ∧ i = .int .i64 j ∧ Blk wr R D 3 ∧ Blk wr G C 28 ∧ Tab s n G n R0 C wr ∧ SB wr B s ∧ SB wr T t ∧ Below w.heap.size w wr) (fun i _ => n - (intOf i).toNat)
        case atStart => exact ⟨0, by omega, rfl, HR.out, HG.out, HTb.out, HS.out, HTt.out, HBw.out⟩
        case round =>
          obtain ⟨j, hj, rfl, hR, hG, hTb, hS, hTt, hBw⟩ := hrel
          clear HS HTt HG HTb HR HBw
          have HS := Hid.intro' hS
          have HTt := Hid.intro' hTt
          have HG := Hid.intro' hG
          have HTb := Hid.intro' hTb
          have HBw := Hid.intro' hBw
          have HR := Hid.intro' hR
          by_cases hjn : j < n
          · have hjI : (j : Int) < (n : Int) := by omega
            have hj0 : (0 : Int) ≤ (j : Int) := by omega
            obtain ⟨R2, D2, _, _, hCj, hR2, hrow2⟩ := hTb j hjn
            have HR2 := Hid.intro' hR2
            have HRow2 := Hid.intro' hrow2
            have HCj := Hid.intro' hCj
            clear hS hTt hG hTb hBw hR hR2 hrow2 hCj
            go_wp2_with fail
            have hs : ∀ w', Below wr.heap.size wr w' → SB w' B s := fun w' h' => HS.out.below' h'
            have ht : ∀ w', Below wr.heap.size wr w' → SB w' T t := fun w' h' => HTt.out.below' h'
            have hcg : ∀ w', Below wr.heap.size wr w' → w'.cell? ⟨G, k, none⟩ = some (.slice (some ⟨R, 0, none⟩) n n) := fun w' h' => ((HG.out.below h').cell k).trans HCk.out
            have hcj : ∀ w', Below wr.heap.size wr w' → w'.cell? ⟨G, j, none⟩ = some (.slice (some ⟨R2, 0, none⟩) n n) := fun w' h' => ((HG.out.below h').cell j).trans HCj.out
            have hcr : ∀ w', Below wr.heap.size wr w' → w'.cell? ⟨R, j, none⟩ = some (.int .i64 (SM.trav s k j)) := fun w' h' => ((HR.out.below h').cell j).trans (HRow.out j hjn)
            have hcr2 : ∀ w', Below wr.heap.size wr w' → w'.cell? ⟨R2, k, none⟩ = some (.int .i64 (SM.trav s j k)) := fun w' h' => ((HR2.out.below h').cell k).trans (HRow2.out k hlt)
            have t3 : (SM.trav s k j != SM.trav s j k) = false := by rw [SM.trav_comm s k j]; simp
            have t4 : decide (SM.trav t k j < SM.trav s k j) = false := by have := SM.trav_grows HG0.out k j; simp; omega
            refine wp_region_quiet (C := fun w' => Below wr.heap.size wr w') (by kernel_rfl) (by kernel_rfl) ((Below.refl _ wr).drew) ?_
            simp only []
            refine wpQuiet_step (fun K hK => ?_)
            go_simp
            refine ⟨_, fun _ _ => rfl, hK _ ?_⟩
            clear hK K
            refine wpQuiet_step (fun K hK => ?_)
            go_simp
            refine ⟨_, fun _ _ => rfl, hK _ ?_⟩
            clear hK K
            refine wpQuiet_step (fun K hK => ?_)
            go_simp
            refine ⟨_, fun _ _ => rfl, hK _ ?_⟩
            clear hK K
            refine wpQuiet_load28 _ _ _ _ rfl rfl rfl hcg ?_
            refine wpQuiet_step (fun K hK => ?_)
            go_simp
            refine ⟨_, fun _ _ => rfl, hK _ ?_⟩
            clear hK K
            refine wpQuiet_step (fun K hK => ?_)
            go_simp
            refine ⟨_, fun _ _ => rfl, hK _ ?_⟩
            clear hK K
            refine wpQuiet_load3 _ _ _ _ rfl rfl rfl hcr ?_
            refine wpQuiet_step (fun K hK => ?_)
            go_simp
            refine ⟨_, fun _ _ => rfl, hK _ ?_⟩
            clear hK K
            refine wpQuiet_step (fun K hK => ?_)
            go_simp
            refine ⟨_, fun _ _ => rfl, hK _ ?_⟩
            clear hK K
            refine wpQuiet_step (fun K hK => ?_)
            go_simp
            refine ⟨_, fun _ _ => rfl, hK _ ?_⟩
            clear hK K
            refine wpQuiet_load28 _ _ _ _ rfl rfl rfl hcj ?_
            refine wpQuiet_step (fun K hK => ?_)
            go_simp
            refine ⟨_, fun _ _ => rfl, hK _ ?_⟩
            clear hK K
            refine wpQuiet_step (fun K hK => ?_)
            go_simp
            refine ⟨_, fun _ _ => rfl, hK _ ?_⟩
            clear hK K
            refine wpQuiet_load3 _ _ _ _ rfl rfl rfl hcr2 ?_
            refine wpQuiet_step (fun K hK => ?_)
            go_simp
            refine ⟨_, fun _ _ => rfl, hK _ ?_⟩
            clear hK K
            refine wpQuiet_step (fun K hK => ?_)
            go_simp
            refine ⟨_, fun _ _ => rfl, hK _ ?_⟩
            clear hK K
            refine wpQuiet_step (fun K hK => ?_)
            go_simp
            refine ⟨_, fun _ _ => rfl, hK _ ?_⟩
            clear hK K
            refine wpQuiet_step (fun K hK => ?_)
            go_simp
            refine ⟨_, fun _ _ => rfl, hK _ ?_⟩
            clear hK K
            refine wpQuiet_step (fun K hK => ?_)
            go_simp
            refine ⟨_, fun _ _ => rfl, hK _ ?_⟩
            clear hK K
            refine wpQuiet_load28 _ _ _ _ rfl rfl rfl hcg ?_
            refine wpQuiet_step (fun K hK => ?_)
            go_simp
            refine ⟨_, fun _ _ => rfl, hK _ ?_⟩
            clear hK K
            refine wpQuiet_step (fun K hK => ?_)
            go_simp
            refine ⟨_, fun _ _ => rfl, hK _ ?_⟩
            clear hK K
            refine wpQuiet_load3 _ _ _ _ rfl rfl rfl hcr ?_
            refine wpQuiet_load23 _ B s rfl rfl rfl hs ?_
            refine wpQuiet_step (fun K hK => ?_)
            go_simp
            refine ⟨_, fun _ _ => rfl, hK _ ?_⟩
            clear hK K
            refine wpQuiet_step (fun K hK => ?_)
            go_simp
            refine ⟨_, fun _ _ => rfl, hK _ ?_⟩
            clear hK K
            refine wpQuiet_step (fun K hK => ?_)
            go_simp
            refine ⟨_, fun w' hw => (travel_any s hr _ _ w').mono fun e w'' hh => ⟨hh.1, below_class hw hh.2⟩, hK _ ?_⟩
            clear hK K
            refine wpQuiet_step (fun K hK => ?_)
            go_simp
            refine ⟨_, fun _ _ => rfl, hK _ ?_⟩
            clear hK K
            refine wpQuiet_step (fun K hK => ?_)
            go_simp
            refine ⟨_, fun _ _ => rfl, hK _ ?_⟩
            clear hK K
            refine wpQuiet_step (fun K hK => ?_)
            go_simp
            refine ⟨_, fun _ _ => rfl, hK _ ?_⟩
            clear hK K
            refine wpQuiet_load23 _ T t rfl rfl rfl ht ?_
            refine wpQuiet_step (fun K hK => ?_)
            go_simp
            refine ⟨_, fun _ _ => rfl, hK _ ?_⟩
            clear hK K
            refine wpQuiet_step (fun K hK => ?_)
            go_simp
            refine ⟨_, fun _ _ => rfl, hK _ ?_⟩
            clear hK K
            refine wpQuiet_step (fun K hK => ?_)
            go_simp
            refine ⟨_, fun w' hw => (travel_any t hrt _ _ w').mono fun e w'' hh => ⟨hh.1, below_class hw hh.2⟩, hK _ ?_⟩
            clear hK K
            refine wpQuiet_step (fun K hK => ?_)
            go_simp
            refine ⟨_, fun _ _ => rfl, hK _ ?_⟩
            clear hK K
            refine wpQuiet_step (fun K hK => ?_)
            go_simp
            refine ⟨_, fun _ _ => rfl, hK _ ?_⟩
            clear hK K
            refine wpQuiet_step (fun K hK => ?_)
            go_simp
            refine ⟨_, fun _ _ => rfl, hK _ ?_⟩
            clear hK K
            refine wpQuiet_load28 _ _ _ _ rfl rfl rfl hcg ?_
            refine wpQuiet_step (fun K hK => ?_)
            go_simp
            refine ⟨_, fun _ _ => rfl, hK _ ?_⟩
            clear hK K
            refine wpQuiet_step (fun K hK => ?_)
            go_simp
            refine ⟨_, fun _ _ => rfl, hK _ ?_⟩
            clear hK K
            refine wpQuiet_load3 _ _ _ _ rfl rfl rfl hcr ?_
            refine wpQuiet_step (fun K hK => ?_)
            go_simp
            refine ⟨_, fun _ _ => rfl, hK _ ?_⟩
            clear hK K
            refine wpQuiet_step (fun K hK => ?_)
            go_simp
            refine ⟨_, fun _ _ => rfl, hK _ ?_⟩
            clear hK K
            refine wpQuiet_nil ?_
            intro W7 hb
            have HS7 := Hid.intro' (SB.below' HS.out hb)
            have HT7 := Hid.intro' (SB.below' HTt.out hb)
            have HG7 := Hid.intro' (Blk.below HG.out hb)
            have HTb7 := Hid.intro' (Tab.below HTb.out hb)
            have HR7 := Hid.intro' (Blk.below HR.out hb)
            have HB7 := Hid.intro' (below_class HBw.out hb)
            clear hb HS HTt HG HTb HR HBw hcg hcr hcj hcr2 hs ht t3 t4
            go_wp2
            go_roundw
            case rel => exact ⟨j + 1, by omega, by go_num, HR7.out, HG7.out, HTb7.out, HS7.out, HT7.out, HB7.out⟩
            case measure => simp [intOf]; omega
          · obtain rfl : j = n := by omega
            clear hS hTt hG hTb hBw hR
            go_wp2
            go_roundw
            case rel => exact ⟨k + 1, by omega, by go_num, HG.out, HTb.out, HS.out, HTt.out, HBw.out⟩
            case measure => simp [intOf]; omega
      · obtain rfl : k = n := by omega
        have hc0 : wr.cell? ⟨B, 0, none⟩ = some (.int .i64 (k : Int)) := by rw [← HFL.out]; exact hS.c0
        have HBw := Hid.intro' hBw
        clear hG hTb hS hTt hBw
        go_wp2
        go_ret
        exact ⟨rfl, HBw.out⟩
  · have c1 := right_f t hrt (W2.alloc (.cells (sv t).toArray 23))
    rw [show sv t = sv { s with sto := s.sto + 1 } by rw [HT0.out]] at c1 HB3
    refine c1.mono ?_
    clear c1
    rintro e W4 ⟨rfl, hb⟩
    have HB4 := Hid.intro' (below_class HB3.out hb)
    clear hb HB3 HS3 HT3
    go_wp2
    go_ret
    exact ⟨rfl, HB4.out⟩

end Go.Proofs.Ytdkhobhffdgliab
