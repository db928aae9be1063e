/- The walk of the law DoorFree. -/
import Derived.Test.YtpclpeeglmabhabDoorE
namespace Go.Proofs.Ytpclpeeglmabhab
open Go.RowKit

set_option maxRecDepth 100000 in
set_option maxHeartbeats 4000000 in
theorem free_of (s : St) (a : Option Addr) (len cap : Nat) (w : World) (hlen : len = 0 ∨ ∃ b off, a = some ⟨b, off, none⟩ ∧ ∀ w', Below w.heap.size w w' → ∀ i, i < len → ∃ v, w'.cell? ⟨b, off + i, none⟩ = some (.bool v)) :
    Calls Try.prog 8 #[.agg (sv s).toArray, .slice a len cap] w fun e w' => e = .returned (.bool true) ∧ Below w.heap.size w w' := by
  have HB : Hid (Below w.heap.size w (w.alloc (.cells (sv s).toArray 23))) := Hid.intro' ((Below.refl _ w).alloc (Nat.le_refl _) _)
  have HN := Hid.intro' (SB.new w s)
  have HLen := Hid.intro' hlen
  clear hlen
  go_enter Try.func8, Try.ntmps8
  go_wp2_with fail
  obtain ⟨B, hB⟩ : ∃ B, w.heap.size = B := ⟨_, rfl⟩
  rw [show Value.pointer (some ⟨w.heap.size, 0, none⟩) = Value.pointer (some ⟨B, 0, none⟩) by rw [hB]]
  rw [hB] at HN
  refine (dspeaks_any _).mono ?_
  rintro e W1 ⟨rfl, hb⟩
  have HS1 := Hid.intro' (SB.below' HN.out hb)
  have HB1 := Hid.intro' (below_class HB.out hb)
  clear hb HN HB
  by_cases hr : SM.Rt s
  · go_wp2_with (refine wpList_load23 rfl _ rfl B s rfl HS1.out ?_)
    refine (rright_t s hr _).mono ?_
    rintro e W2 ⟨rfl, hb⟩
    have HS2 := Hid.intro' (SB.below' HS1.out hb)
    have HB2 := Hid.intro' (below_class HB1.out hb)
    clear hb HS1 HB1
    have c5 : W2.cell? ⟨B, 5, none⟩ = some (.int .i64 s.opn) := HS2.out.cell 5
    have c6 : W2.cell? ⟨B, 6, none⟩ = some (.int .i64 s.wai) := HS2.out.cell 6
    have c7 : W2.cell? ⟨B, 7, none⟩ = some (.int .i64 s.clo) := HS2.out.cell 7
    have o1 := hr.opn1; have o2 := hr.opn2; have w1 := hr.wai1; have w2 := hr.wai2; have k1 := hr.clo1; have k2 := hr.clo2
    by_cases hl : 100 < len
    · have hl' : (100 : Int) < (len : Int) := by omega
      go_wp2
      go_ret
      exact ⟨rfl, HB2.out⟩
    · have hl' : (len : Int) ≤ 100 := by omega
      by_cases hsum : 200 < s.opn + s.wai + s.clo
      · go_wp2
        go_ret
        exact ⟨rfl, HB2.out⟩
      · have hsum' : s.opn + s.wai + s.clo ≤ 200 := by omega
        go_wp2_with (refine wpList_load23 rfl _ rfl B s rfl HS2.out ?_)
        refine (step_shut s true false _).mono ?_
        rintro e W3 ⟨rfl, hb⟩
        have HS3 := Hid.intro' (SB.below' HS2.out hb)
        have HB3 := Hid.intro' (below_class HB2.out hb)
        clear hb HS2 HB2 c5 c6 c7 hsum hl
        rw [show DM.step s DM.z true false = ⟨1, s.opn, 0, false⟩ from rfl]
        simp only [dv]
        go_wp2
        have HB4 := Hid.intro' ((HB3.out.alloc HB3.out.size (.cells #[.int .i64 1, .int .i64 s.opn, .int .i64 0, .bool false] 35)).alloc (by simp; have := HB3.out.size; omega) (.cells #[.int .i64 0, .int .i64 0, .int .i64 0, .int .i64 0] 43))
        have HS4 := Hid.intro' ((HS3.out.alloc (.cells #[.int .i64 1, .int .i64 s.opn, .int .i64 0, .bool false] 35)).alloc (.cells #[.int .i64 0, .int .i64 0, .int .i64 0, .int .i64 0] 43))
        have HD4 := Hid.intro' ((DB.new W3 1 s.opn 0 false).alloc (.cells #[.int .i64 0, .int .i64 0, .int .i64 0, .int .i64 0] 43))
        have HE4 := Hid.intro' (EB.new' (W3.alloc (.cells #[.int .i64 1, .int .i64 s.opn, .int .i64 0, .bool false] 35)) 0 0 0 0 (n := W3.heap.size + 1) (by simp))
        have hBD : B < W3.heap.size := HS3.out.lt
        have hwD : w.heap.size ≤ W3.heap.size := HB3.out.size
        generalize (W3.alloc (.cells #[.int .i64 1, .int .i64 s.opn, .int .i64 0, .bool false] 35)).alloc (.cells #[.int .i64 0, .int .i64 0, .int .i64 0, .int .i64 0] 43) = W4 at HB4 HS4 HD4 HE4 ⊢
        generalize W3.heap.size = D at HD4 HE4 hBD hwD ⊢
        clear HS3 HB3
        obtain ⟨T, hT⟩ : ∃ T : Nat, s.opn + s.wai + s.clo = (T : Int) := ⟨(s.opn + s.wai + s.clo).toNat, by omega⟩
        have HT := Hid.intro' hT
        have hT2 : T ≤ 200 := by omega
        clear hT
        go_loopw [7] (fun i wr => ∃ (k : Nat) (d : Dr) (x y z : Int), i = .int .i64 k ∧ Fr s d k x y z ∧ DB wr D d.ph d.le d.ru d.he ∧ EB wr (D + 1) 0 x y z ∧ SB wr B s ∧ Below w.heap.size w wr) (fun i _ => T - (intOf i).toNat)
        case atStart => exact ⟨0, ⟨1, s.opn, 0, false⟩, 0, 0, 0, rfl, .inl ⟨by simp, by omega, by omega, rfl, rfl, rfl⟩, HD4.out, HE4.out, HS4.out, HB4.out⟩
        case round =>
          obtain ⟨k, d, x, y, z, rfl, hfr, hd, he, hs, hb⟩ := hrel
          clear HD4 HE4 HS4 HB4
          have hT := HT.out
          have HS := Hid.intro' hs
          have HB := Hid.intro' hb
          have HD := Hid.intro' hd
          have HE := Hid.intro' he
          rcases hfr with h1 | h2 | h3 | h4
          · obtain ⟨rfl, q1, q2, rfl, rfl, q3⟩ := h1
            have hrd : DM.Rd s ⟨1, s.opn - x, 0, false⟩ := .inr ⟨by simp, hr.nud1, by simp; omega, by simp [DM.tk]; omega, by simp, by simp⟩
            have HR := Hid.intro' hrd
            have HF := Hid.intro' (fr1 hr q1 q2)
            have a0 := hd.c0; have a2 := hd.c2; have a3 := hd.c3
            have e1 := he.c1
            have f1 := he.fr 1
            have hk7 : (k : Int) ≤ 700 := by omega
            have HQ3 := Hid.intro' q3
            clear hrd hs hd he hb q3 hT
            go_wp2
            have HE5 := Hid.intro' (HE.out.s1 (x + 1))
            have HD5 := Hid.intro' (HD.out.other (show D ≠ D + 1 by omega) 1 (.int .i64 (x + 1)))
            have HS5 := Hid.intro' (HS.out.other (show B ≠ D + 1 by omega) 1 (.int .i64 (x + 1)))
            have HB5 := Hid.intro' (below_set (i := 1) (v := .int .i64 (x + 1)) HB.out (show w.heap.size ≤ D + 1 by omega))
            generalize wr.setCell ⟨D + 1, 1, none⟩ (.int .i64 (x + 1)) = W5 at HE5 HD5 HS5 HB5 ⊢
            clear HE HD HS HB a0 a2 a3 e1 f1
            rcases Nat.eq_zero_or_pos len with hl0 | hl0
            · have hz : decide ((0 : Int) < (len : Int)) = false := by simp; omega
              have hz' : decide (0 < len) = false := by simp; omega
              clear hl0
              refine wp_region_still_tail 14 (by kernel_rfl) (by kernel_rfl) ?_
              simp only [List.take_succ_cons, List.take_zero, List.drop_succ_cons, List.drop_zero]
              refine wpStill_load23 _ B s rfl rfl rfl HS5.out (fun K hK => ?_)
              go_simp
              with_reducible apply hK
              clear hK K
              refine wpStill_loadD _ D rfl rfl rfl HD5.out (fun K hK => ?_)
              go_simp
              with_reducible apply hK
              clear hK K
              unfold wpStill
              generalize hK : wpStill Try.prog _ _ _ _ = K
              go_simp
              subst hK
              unfold wpStill
              generalize hK : wpStill Try.prog _ _ _ _ = K
              go_simp
              subst hK
              unfold wpStill
              generalize hK : wpStill Try.prog _ _ _ _ = K
              go_simp
              subst hK
              unfold wpStill
              generalize hK : wpStill Try.prog _ _ _ _ = K
              go_simp
              subst hK
              unfold wpStill
              generalize hK : wpStill Try.prog _ _ _ _ = K
              go_simp
              subst hK
              unfold wpStill
              generalize hK : wpStill Try.prog _ _ _ _ = K
              go_simp
              subst hK
              unfold wpStill
              generalize hK : wpStill Try.prog _ _ _ _ = K
              go_simp
              subst hK
              unfold wpStill
              generalize hK : wpStill Try.prog _ _ _ _ = K
              go_simp
              subst hK
              unfold wpStill
              generalize hK : wpStill Try.prog _ _ _ _ = K
              go_simp
              subst hK
              unfold wpStill
              generalize hK : wpStill Try.prog _ _ _ _ = K
              go_simp
              subst hK
              unfold wpStill
              generalize hK : wpStill Try.prog _ _ _ _ = K
              go_simp
              subst hK
              unfold wpStill
              generalize hK : wpStill Try.prog _ _ _ _ = K
              go_simp
              subst hK
              refine wpStill_nil ?_
              go_wp2_with fail
              have c1 := step_any s hr ⟨1, s.opn - x, 0, false⟩ HR.out false false W5.drew
              rw [free_step s (by simp)] at c1
              refine c1.mono ?_
              clear c1
              rintro e W6 ⟨rfl, hb⟩
              have HS6 := Hid.intro' (SB.below' (W := W5.drew) HS5.out hb)
              have HD6 := Hid.intro' (DB.below' (W := W5.drew) HD5.out hb)
              have HE6 := Hid.intro' (EB.below' (W := W5.drew) HE5.out hb)
              have HB6 := Hid.intro' (below_class (w := W5.drew) HB5.out.drew hb)
              clear hb HS5 HD5 HE5 HB5 hz hz'
              simp only [dv]
              go_wp2_with (refine wpList_storeD rfl _ _ rfl D rfl rfl HD6.out ?_)
              intro W7 hu hd
              have HS7 := Hid.intro' (hu.sb HS6.out (by omega))
              have HE7 := Hid.intro' (hu.eb HE6.out (by omega))
              have HB7 := Hid.intro' (hu.below HB6.out hwD)
              have HD7 := Hid.intro' hd
              clear hu hd HS6 HB6 HD6 HE6
              go_wp2
              go_roundw
              case rel => exact ⟨k + 1, _, _, _, _, by go_num, by have h1 := HF.out; have h2 := HQ3.out; rw [show ((k + 1 : Nat) : Int) = x + 1 by omega]; exact h1, HD7.out, HE7.out, HS7.out, HB7.out⟩
              case measure => have h2 := HQ3.out; have h3 := HT.out; simp [intOf]; omega
            · have hz : decide ((0 : Int) < (len : Int)) = true := by simp; omega
              have hz' : decide (0 < len) = true := by simp; omega
              obtain ⟨g, off, rfl, hcell⟩ : ∃ b off, a = some ⟨b, off, none⟩ ∧ ∀ w', Below w.heap.size w w' → ∀ i, i < len → ∃ v, w'.cell? ⟨b, off + i, none⟩ = some (.bool v) := HLen.out.resolve_left (by omega)
              obtain ⟨m, hm, hml⟩ : ∃ m : Nat, ((k : Nat) : Int).tmod (len : Int) = (m : Int) ∧ m < len := ⟨k % len, rem_mod k len hl0, Nat.mod_lt _ hl0⟩
              obtain ⟨v, hv⟩ := hcell W5 HB5.out m hml
              have hml' : (m : Int) < (len : Int) := by omega
              have hl1 : ¬ len = 0 := by omega
              clear hcell
              refine wp_region_still_tail 14 (by kernel_rfl) (by kernel_rfl) ?_
              simp only [List.take_succ_cons, List.take_zero, List.drop_succ_cons, List.drop_zero]
              refine wpStill_load23 _ B s rfl rfl rfl HS5.out (fun K hK => ?_)
              go_simp
              with_reducible apply hK
              clear hK K
              refine wpStill_loadD _ D rfl rfl rfl HD5.out (fun K hK => ?_)
              go_simp
              with_reducible apply hK
              clear hK K
              unfold wpStill
              generalize hK : wpStill Try.prog _ _ _ _ = K
              go_simp
              subst hK
              unfold wpStill
              generalize hK : wpStill Try.prog _ _ _ _ = K
              go_simp
              subst hK
              unfold wpStill
              generalize hK : wpStill Try.prog _ _ _ _ = K
              go_simp
              subst hK
              unfold wpStill
              generalize hK : wpStill Try.prog _ _ _ _ = K
              go_simp
              subst hK
              unfold wpStill
              generalize hK : wpStill Try.prog _ _ _ _ = K
              go_simp
              subst hK
              unfold wpStill
              generalize hK : wpStill Try.prog _ _ _ _ = K
              go_simp
              subst hK
              unfold wpStill
              generalize hK : wpStill Try.prog _ _ _ _ = K
              go_simp
              subst hK
              unfold wpStill
              generalize hK : wpStill Try.prog _ _ _ _ = K
              go_simp
              subst hK
              unfold wpStill
              generalize hK : wpStill Try.prog _ _ _ _ = K
              go_simp
              subst hK
              unfold wpStill
              generalize hK : wpStill Try.prog _ _ _ _ = K
              go_simp
              subst hK
              unfold wpStill
              generalize hK : wpStill Try.prog _ _ _ _ = K
              go_simp
              subst hK
              unfold wpStill
              generalize hK : wpStill Try.prog _ _ _ _ = K
              go_simp
              subst hK
              refine wpStill_nil ?_
              go_wp2_with fail
              have c1 := step_any s hr ⟨1, s.opn - x, 0, false⟩ HR.out v false W5.drew
              rw [free_step s (by simp)] at c1
              refine c1.mono ?_
              clear c1
              rintro e W6 ⟨rfl, hb⟩
              have HS6 := Hid.intro' (SB.below' (W := W5.drew) HS5.out hb)
              have HD6 := Hid.intro' (DB.below' (W := W5.drew) HD5.out hb)
              have HE6 := Hid.intro' (EB.below' (W := W5.drew) HE5.out hb)
              have HB6 := Hid.intro' (below_class (w := W5.drew) HB5.out.drew hb)
              clear hb HS5 HD5 HE5 HB5 hz hz' hv hm hml hml' hl1
              simp only [dv]
              go_wp2_with (refine wpList_storeD rfl _ _ rfl D rfl rfl HD6.out ?_)
              intro W7 hu hd
              have HS7 := Hid.intro' (hu.sb HS6.out (by omega))
              have HE7 := Hid.intro' (hu.eb HE6.out (by omega))
              have HB7 := Hid.intro' (hu.below HB6.out hwD)
              have HD7 := Hid.intro' hd
              clear hu hd HS6 HB6 HD6 HE6
              go_wp2
              go_roundw
              case rel => exact ⟨k + 1, _, _, _, _, by go_num, by have h1 := HF.out; have h2 := HQ3.out; rw [show ((k + 1 : Nat) : Int) = x + 1 by omega]; exact h1, HD7.out, HE7.out, HS7.out, HB7.out⟩
              case measure => have h2 := HQ3.out; have h3 := HT.out; simp [intOf]; omega
          · obtain ⟨rfl, rfl, q1, q2, rfl, q3⟩ := h2
            have hrd : DM.Rd s ⟨2, s.wai - y, 0, false⟩ := .inr ⟨by simp, hr.nud1, by simp; omega, by simp [DM.tk]; omega, by simp, by simp⟩
            have HR := Hid.intro' hrd
            have HF := Hid.intro' (fr2 hr q1 q2)
            have a0 := hd.c0; have a2 := hd.c2; have a3 := hd.c3
            have e2 := he.c2
            have f2 := he.fr 2
            have hk7 : (k : Int) ≤ 700 := by omega
            have HQ3 := Hid.intro' q3
            clear hrd hs hd he hb q3 hT
            go_wp2
            have HE5 := Hid.intro' (HE.out.s2 (y + 1))
            have HD5 := Hid.intro' (HD.out.other (show D ≠ D + 1 by omega) 2 (.int .i64 (y + 1)))
            have HS5 := Hid.intro' (HS.out.other (show B ≠ D + 1 by omega) 2 (.int .i64 (y + 1)))
            have HB5 := Hid.intro' (below_set (i := 2) (v := .int .i64 (y + 1)) HB.out (show w.heap.size ≤ D + 1 by omega))
            generalize wr.setCell ⟨D + 1, 2, none⟩ (.int .i64 (y + 1)) = W5 at HE5 HD5 HS5 HB5 ⊢
            clear HE HD HS HB a0 a2 a3 e2 f2
            rcases Nat.eq_zero_or_pos len with hl0 | hl0
            · have hz : decide ((0 : Int) < (len : Int)) = false := by simp; omega
              have hz' : decide (0 < len) = false := by simp; omega
              clear hl0
              refine wp_region_still_tail 14 (by kernel_rfl) (by kernel_rfl) ?_
              simp only [List.take_succ_cons, List.take_zero, List.drop_succ_cons, List.drop_zero]
              refine wpStill_load23 _ B s rfl rfl rfl HS5.out (fun K hK => ?_)
              go_simp
              with_reducible apply hK
              clear hK K
              refine wpStill_loadD _ D rfl rfl rfl HD5.out (fun K hK => ?_)
              go_simp
              with_reducible apply hK
              clear hK K
              unfold wpStill
              generalize hK : wpStill Try.prog _ _ _ _ = K
              go_simp
              subst hK
              unfold wpStill
              generalize hK : wpStill Try.prog _ _ _ _ = K
              go_simp
              subst hK
              unfold wpStill
              generalize hK : wpStill Try.prog _ _ _ _ = K
              go_simp
              subst hK
              unfold wpStill
              generalize hK : wpStill Try.prog _ _ _ _ = K
              go_simp
              subst hK
              unfold wpStill
              generalize hK : wpStill Try.prog _ _ _ _ = K
              go_simp
              subst hK
              unfold wpStill
              generalize hK : wpStill Try.prog _ _ _ _ = K
              go_simp
              subst hK
              unfold wpStill
              generalize hK : wpStill Try.prog _ _ _ _ = K
              go_simp
              subst hK
              unfold wpStill
              generalize hK : wpStill Try.prog _ _ _ _ = K
              go_simp
              subst hK
              unfold wpStill
              generalize hK : wpStill Try.prog _ _ _ _ = K
              go_simp
              subst hK
              unfold wpStill
              generalize hK : wpStill Try.prog _ _ _ _ = K
              go_simp
              subst hK
              unfold wpStill
              generalize hK : wpStill Try.prog _ _ _ _ = K
              go_simp
              subst hK
              unfold wpStill
              generalize hK : wpStill Try.prog _ _ _ _ = K
              go_simp
              subst hK
              refine wpStill_nil ?_
              go_wp2_with fail
              have c1 := step_any s hr ⟨2, s.wai - y, 0, false⟩ HR.out false false W5.drew
              rw [free_step s (by simp)] at c1
              refine c1.mono ?_
              clear c1
              rintro e W6 ⟨rfl, hb⟩
              have HS6 := Hid.intro' (SB.below' (W := W5.drew) HS5.out hb)
              have HD6 := Hid.intro' (DB.below' (W := W5.drew) HD5.out hb)
              have HE6 := Hid.intro' (EB.below' (W := W5.drew) HE5.out hb)
              have HB6 := Hid.intro' (below_class (w := W5.drew) HB5.out.drew hb)
              clear hb HS5 HD5 HE5 HB5 hz hz'
              simp only [dv]
              go_wp2_with (refine wpList_storeD rfl _ _ rfl D rfl rfl HD6.out ?_)
              intro W7 hu hd
              have HS7 := Hid.intro' (hu.sb HS6.out (by omega))
              have HE7 := Hid.intro' (hu.eb HE6.out (by omega))
              have HB7 := Hid.intro' (hu.below HB6.out hwD)
              have HD7 := Hid.intro' hd
              clear hu hd HS6 HB6 HD6 HE6
              go_wp2
              go_roundw
              case rel => exact ⟨k + 1, _, _, _, _, by go_num, by have h1 := HF.out; have h2 := HQ3.out; rw [show ((k + 1 : Nat) : Int) = s.opn + y + 1 by omega]; exact h1, HD7.out, HE7.out, HS7.out, HB7.out⟩
              case measure => have h2 := HQ3.out; have h3 := HT.out; simp [intOf]; omega
            · have hz : decide ((0 : Int) < (len : Int)) = true := by simp; omega
              have hz' : decide (0 < len) = true := by simp; omega
              obtain ⟨g, off, rfl, hcell⟩ : ∃ b off, a = some ⟨b, off, none⟩ ∧ ∀ w', Below w.heap.size w w' → ∀ i, i < len → ∃ v, w'.cell? ⟨b, off + i, none⟩ = some (.bool v) := HLen.out.resolve_left (by omega)
              obtain ⟨m, hm, hml⟩ : ∃ m : Nat, ((k : Nat) : Int).tmod (len : Int) = (m : Int) ∧ m < len := ⟨k % len, rem_mod k len hl0, Nat.mod_lt _ hl0⟩
              obtain ⟨v, hv⟩ := hcell W5 HB5.out m hml
              have hml' : (m : Int) < (len : Int) := by omega
              have hl1 : ¬ len = 0 := by omega
              clear hcell
              refine wp_region_still_tail 14 (by kernel_rfl) (by kernel_rfl) ?_
              simp only [List.take_succ_cons, List.take_zero, List.drop_succ_cons, List.drop_zero]
              refine wpStill_load23 _ B s rfl rfl rfl HS5.out (fun K hK => ?_)
              go_simp
              with_reducible apply hK
              clear hK K
              refine wpStill_loadD _ D rfl rfl rfl HD5.out (fun K hK => ?_)
              go_simp
              with_reducible apply hK
              clear hK K
              unfold wpStill
              generalize hK : wpStill Try.prog _ _ _ _ = K
              go_simp
              subst hK
              unfold wpStill
              generalize hK : wpStill Try.prog _ _ _ _ = K
              go_simp
              subst hK
              unfold wpStill
              generalize hK : wpStill Try.prog _ _ _ _ = K
              go_simp
              subst hK
              unfold wpStill
              generalize hK : wpStill Try.prog _ _ _ _ = K
              go_simp
              subst hK
              unfold wpStill
              generalize hK : wpStill Try.prog _ _ _ _ = K
              go_simp
              subst hK
              unfold wpStill
              generalize hK : wpStill Try.prog _ _ _ _ = K
              go_simp
              subst hK
              unfold wpStill
              generalize hK : wpStill Try.prog _ _ _ _ = K
              go_simp
              subst hK
              unfold wpStill
              generalize hK : wpStill Try.prog _ _ _ _ = K
              go_simp
              subst hK
              unfold wpStill
              generalize hK : wpStill Try.prog _ _ _ _ = K
              go_simp
              subst hK
              unfold wpStill
              generalize hK : wpStill Try.prog _ _ _ _ = K
              go_simp
              subst hK
              unfold wpStill
              generalize hK : wpStill Try.prog _ _ _ _ = K
              go_simp
              subst hK
              unfold wpStill
              generalize hK : wpStill Try.prog _ _ _ _ = K
              go_simp
              subst hK
              refine wpStill_nil ?_
              go_wp2_with fail
              have c1 := step_any s hr ⟨2, s.wai - y, 0, false⟩ HR.out v false W5.drew
              rw [free_step s (by simp)] at c1
              refine c1.mono ?_
              clear c1
              rintro e W6 ⟨rfl, hb⟩
              have HS6 := Hid.intro' (SB.below' (W := W5.drew) HS5.out hb)
              have HD6 := Hid.intro' (DB.below' (W := W5.drew) HD5.out hb)
              have HE6 := Hid.intro' (EB.below' (W := W5.drew) HE5.out hb)
              have HB6 := Hid.intro' (below_class (w := W5.drew) HB5.out.drew hb)
              clear hb HS5 HD5 HE5 HB5 hz hz' hv hm hml hml' hl1
              simp only [dv]
              go_wp2_with (refine wpList_storeD rfl _ _ rfl D rfl rfl HD6.out ?_)
              intro W7 hu hd
              have HS7 := Hid.intro' (hu.sb HS6.out (by omega))
              have HE7 := Hid.intro' (hu.eb HE6.out (by omega))
              have HB7 := Hid.intro' (hu.below HB6.out hwD)
              have HD7 := Hid.intro' hd
              clear hu hd HS6 HB6 HD6 HE6
              go_wp2
              go_roundw
              case rel => exact ⟨k + 1, _, _, _, _, by go_num, by have h1 := HF.out; have h2 := HQ3.out; rw [show ((k + 1 : Nat) : Int) = s.opn + y + 1 by omega]; exact h1, HD7.out, HE7.out, HS7.out, HB7.out⟩
              case measure => have h2 := HQ3.out; have h3 := HT.out; simp [intOf]; omega
          · obtain ⟨rfl, rfl, rfl, q1, q2, q3⟩ := h3
            have hrd : DM.Rd s ⟨3, s.clo - z, 0, false⟩ := .inr ⟨by simp, hr.nud1, by simp; omega, by simp [DM.tk]; omega, by simp, by simp⟩
            have HR := Hid.intro' hrd
            have HF := Hid.intro' (fr3 (s := s) q1 q2)
            have a0 := hd.c0; have a2 := hd.c2; have a3 := hd.c3
            have e3 := he.c3
            have f3 := he.fr 3
            have hk7 : (k : Int) ≤ 700 := by omega
            have HQ3 := Hid.intro' q3
            clear hrd hs hd he hb q3 hT
            go_wp2
            have HE5 := Hid.intro' (HE.out.s3 (z + 1))
            have HD5 := Hid.intro' (HD.out.other (show D ≠ D + 1 by omega) 3 (.int .i64 (z + 1)))
            have HS5 := Hid.intro' (HS.out.other (show B ≠ D + 1 by omega) 3 (.int .i64 (z + 1)))
            have HB5 := Hid.intro' (below_set (i := 3) (v := .int .i64 (z + 1)) HB.out (show w.heap.size ≤ D + 1 by omega))
            generalize wr.setCell ⟨D + 1, 3, none⟩ (.int .i64 (z + 1)) = W5 at HE5 HD5 HS5 HB5 ⊢
            clear HE HD HS HB a0 a2 a3 e3 f3
            rcases Nat.eq_zero_or_pos len with hl0 | hl0
            · have hz : decide ((0 : Int) < (len : Int)) = false := by simp; omega
              have hz' : decide (0 < len) = false := by simp; omega
              clear hl0
              refine wp_region_still_tail 14 (by kernel_rfl) (by kernel_rfl) ?_
              simp only [List.take_succ_cons, List.take_zero, List.drop_succ_cons, List.drop_zero]
              refine wpStill_load23 _ B s rfl rfl rfl HS5.out (fun K hK => ?_)
              go_simp
              with_reducible apply hK
              clear hK K
              refine wpStill_loadD _ D rfl rfl rfl HD5.out (fun K hK => ?_)
              go_simp
              with_reducible apply hK
              clear hK K
              unfold wpStill
              generalize hK : wpStill Try.prog _ _ _ _ = K
              go_simp
              subst hK
              unfold wpStill
              generalize hK : wpStill Try.prog _ _ _ _ = K
              go_simp
              subst hK
              unfold wpStill
              generalize hK : wpStill Try.prog _ _ _ _ = K
              go_simp
              subst hK
              unfold wpStill
              generalize hK : wpStill Try.prog _ _ _ _ = K
              go_simp
              subst hK
              unfold wpStill
              generalize hK : wpStill Try.prog _ _ _ _ = K
              go_simp
              subst hK
              unfold wpStill
              generalize hK : wpStill Try.prog _ _ _ _ = K
              go_simp
              subst hK
              unfold wpStill
              generalize hK : wpStill Try.prog _ _ _ _ = K
              go_simp
              subst hK
              unfold wpStill
              generalize hK : wpStill Try.prog _ _ _ _ = K
              go_simp
              subst hK
              unfold wpStill
              generalize hK : wpStill Try.prog _ _ _ _ = K
              go_simp
              subst hK
              unfold wpStill
              generalize hK : wpStill Try.prog _ _ _ _ = K
              go_simp
              subst hK
              unfold wpStill
              generalize hK : wpStill Try.prog _ _ _ _ = K
              go_simp
              subst hK
              unfold wpStill
              generalize hK : wpStill Try.prog _ _ _ _ = K
              go_simp
              subst hK
              refine wpStill_nil ?_
              go_wp2_with fail
              have c1 := step_any s hr ⟨3, s.clo - z, 0, false⟩ HR.out false false W5.drew
              rw [free_step s (by simp)] at c1
              refine c1.mono ?_
              clear c1
              rintro e W6 ⟨rfl, hb⟩
              have HS6 := Hid.intro' (SB.below' (W := W5.drew) HS5.out hb)
              have HD6 := Hid.intro' (DB.below' (W := W5.drew) HD5.out hb)
              have HE6 := Hid.intro' (EB.below' (W := W5.drew) HE5.out hb)
              have HB6 := Hid.intro' (below_class (w := W5.drew) HB5.out.drew hb)
              clear hb HS5 HD5 HE5 HB5 hz hz'
              simp only [dv]
              go_wp2_with (refine wpList_storeD rfl _ _ rfl D rfl rfl HD6.out ?_)
              intro W7 hu hd
              have HS7 := Hid.intro' (hu.sb HS6.out (by omega))
              have HE7 := Hid.intro' (hu.eb HE6.out (by omega))
              have HB7 := Hid.intro' (hu.below HB6.out hwD)
              have HD7 := Hid.intro' hd
              clear hu hd HS6 HB6 HD6 HE6
              go_wp2
              go_roundw
              case rel => exact ⟨k + 1, _, _, _, _, by go_num, by have h1 := HF.out; have h2 := HQ3.out; rw [show ((k + 1 : Nat) : Int) = s.opn + s.wai + z + 1 by omega]; exact h1, HD7.out, HE7.out, HS7.out, HB7.out⟩
              case measure => have h2 := HQ3.out; have h3 := HT.out; simp [intOf]; omega
            · have hz : decide ((0 : Int) < (len : Int)) = true := by simp; omega
              have hz' : decide (0 < len) = true := by simp; omega
              obtain ⟨g, off, rfl, hcell⟩ : ∃ b off, a = some ⟨b, off, none⟩ ∧ ∀ w', Below w.heap.size w w' → ∀ i, i < len → ∃ v, w'.cell? ⟨b, off + i, none⟩ = some (.bool v) := HLen.out.resolve_left (by omega)
              obtain ⟨m, hm, hml⟩ : ∃ m : Nat, ((k : Nat) : Int).tmod (len : Int) = (m : Int) ∧ m < len := ⟨k % len, rem_mod k len hl0, Nat.mod_lt _ hl0⟩
              obtain ⟨v, hv⟩ := hcell W5 HB5.out m hml
              have hml' : (m : Int) < (len : Int) := by omega
              have hl1 : ¬ len = 0 := by omega
              clear hcell
              refine wp_region_still_tail 14 (by kernel_rfl) (by kernel_rfl) ?_
              simp only [List.take_succ_cons, List.take_zero, List.drop_succ_cons, List.drop_zero]
              refine wpStill_load23 _ B s rfl rfl rfl HS5.out (fun K hK => ?_)
              go_simp
              with_reducible apply hK
              clear hK K
              refine wpStill_loadD _ D rfl rfl rfl HD5.out (fun K hK => ?_)
              go_simp
              with_reducible apply hK
              clear hK K
              unfold wpStill
              generalize hK : wpStill Try.prog _ _ _ _ = K
              go_simp
              subst hK
              unfold wpStill
              generalize hK : wpStill Try.prog _ _ _ _ = K
              go_simp
              subst hK
              unfold wpStill
              generalize hK : wpStill Try.prog _ _ _ _ = K
              go_simp
              subst hK
              unfold wpStill
              generalize hK : wpStill Try.prog _ _ _ _ = K
              go_simp
              subst hK
              unfold wpStill
              generalize hK : wpStill Try.prog _ _ _ _ = K
              go_simp
              subst hK
              unfold wpStill
              generalize hK : wpStill Try.prog _ _ _ _ = K
              go_simp
              subst hK
              unfold wpStill
              generalize hK : wpStill Try.prog _ _ _ _ = K
              go_simp
              subst hK
              unfold wpStill
              generalize hK : wpStill Try.prog _ _ _ _ = K
              go_simp
              subst hK
              unfold wpStill
              generalize hK : wpStill Try.prog _ _ _ _ = K
              go_simp
              subst hK
              unfold wpStill
              generalize hK : wpStill Try.prog _ _ _ _ = K
              go_simp
              subst hK
              unfold wpStill
              generalize hK : wpStill Try.prog _ _ _ _ = K
              go_simp
              subst hK
              unfold wpStill
              generalize hK : wpStill Try.prog _ _ _ _ = K
              go_simp
              subst hK
              refine wpStill_nil ?_
              go_wp2_with fail
              have c1 := step_any s hr ⟨3, s.clo - z, 0, false⟩ HR.out v false W5.drew
              rw [free_step s (by simp)] at c1
              refine c1.mono ?_
              clear c1
              rintro e W6 ⟨rfl, hb⟩
              have HS6 := Hid.intro' (SB.below' (W := W5.drew) HS5.out hb)
              have HD6 := Hid.intro' (DB.below' (W := W5.drew) HD5.out hb)
              have HE6 := Hid.intro' (EB.below' (W := W5.drew) HE5.out hb)
              have HB6 := Hid.intro' (below_class (w := W5.drew) HB5.out.drew hb)
              clear hb HS5 HD5 HE5 HB5 hz hz' hv hm hml hml' hl1
              simp only [dv]
              go_wp2_with (refine wpList_storeD rfl _ _ rfl D rfl rfl HD6.out ?_)
              intro W7 hu hd
              have HS7 := Hid.intro' (hu.sb HS6.out (by omega))
              have HE7 := Hid.intro' (hu.eb HE6.out (by omega))
              have HB7 := Hid.intro' (hu.below HB6.out hwD)
              have HD7 := Hid.intro' hd
              clear hu hd HS6 HB6 HD6 HE6
              go_wp2
              go_roundw
              case rel => exact ⟨k + 1, _, _, _, _, by go_num, by have h1 := HF.out; have h2 := HQ3.out; rw [show ((k + 1 : Nat) : Int) = s.opn + s.wai + z + 1 by omega]; exact h1, HD7.out, HE7.out, HS7.out, HB7.out⟩
              case measure => have h2 := HQ3.out; have h3 := HT.out; simp [intOf]; omega
          · obtain ⟨rfl, rfl, rfl, rfl, q3⟩ := h4
            have a0 := hd.c0; have a1 := hd.c1; have a2 := hd.c2; have a3 := hd.c3
            have e0 := he.c0; have e1 := he.c1; have e2 := he.c2; have e3 := he.c3
            have c5 : wr.cell? ⟨B, 5, none⟩ = some (.int .i64 s.opn) := hs.cell 5
            have c6 : wr.cell? ⟨B, 6, none⟩ = some (.int .i64 s.wai) := hs.cell 6
            have c7 : wr.cell? ⟨B, 7, none⟩ = some (.int .i64 s.clo) := hs.cell 7
            clear hs hd he hb q3 hT
            simp only [DM.z] at a0 a1 a2 a3
            have hq := fun W => eqE 0 s.opn s.wai s.clo W
            go_wp2
            go_ret
            exact ⟨rfl, HB.out⟩
  · go_wp2_with (refine wpList_load23 rfl _ rfl B s rfl HS1.out ?_)
    refine (rright_f s hr _).mono ?_
    rintro e W2 ⟨rfl, hb⟩
    have HB2 := Hid.intro' (below_class HB1.out hb)
    clear hb HB1 HS1
    go_wp2
    go_ret
    exact ⟨rfl, HB2.out⟩

end Go.Proofs.Ytpclpeeglmabhab
