/- The walk of the law DoorSteps. -/
import Derived.Test.YtpclpeeglmabhabDoorR
import Derived.Test.YtpclpeeglmabhabDoorT
import Derived.Test.YtpclpeeglmabhabDoorL
namespace Go.Proofs.Ytpclpeeglmabhab
open Go.RowKit

theorem drB_rt {s : St} {d : Dr} (h : drB s d.ph d.le d.ru d.he = true) : SM.Rt s ∧ DM.Rd s d := by
  unfold drB at h
  rw [Bool.and_eq_true] at h
  exact ⟨(rightB_iff s).1 h.1, (rdB_iff s d).1 h.2⟩
theorem drB_of {s : St} (R : SM.Rt s) {d : Dr} (h : DM.Rd s d) : drB s d.ph d.le d.ru d.he = true := by
  rw [drB_t R]; exact (rdB_iff s d).2 h

set_option maxRecDepth 100000 in
set_option maxHeartbeats 4000000 in
theorem steps_of (s : St) (d : Dr) (a : Option Addr) (len cap : Nat) (w : World) (hlen : len = 0 ∨ ∃ b off, a = some ⟨b, off, none⟩ ∧ ∀ w', Below w.heap.size w w' → ∀ i, i < len → ∃ v, w'.cell? ⟨b, off + i, none⟩ = some (.int .u8 v)) :
    Calls Try.prog 6 #[.agg (sv s).toArray, .agg #[.int .i64 d.ph, .int .i64 d.le, .int .i64 d.ru, .bool d.he], .slice a len cap] w fun e w' => e = .returned (.bool true) ∧ Below w.heap.size w w' := by
  have HLen := Hid.intro' hlen
  clear hlen
  go_enter Try.func6, Try.ntmps6
  go_wp2_with fail
  have HB := Hid.intro' (((Below.refl _ w).alloc (Nat.le_refl _) (.cells (sv s).toArray 23)).alloc (by simp) (.cells #[.int .i64 d.ph, .int .i64 d.le, .int .i64 d.ru, .bool d.he] 35))
  have HN := Hid.intro' ((SB.new w s).alloc (.cells #[.int .i64 d.ph, .int .i64 d.le, .int .i64 d.ru, .bool d.he] 35))
  have HM := Hid.intro' (DB.new' (w.alloc (.cells (sv s).toArray 23)) d.ph d.le d.ru d.he (n := w.heap.size + 1) (by simp))
  refine (dspeaks_any _).mono ?_
  rintro e W1 ⟨rfl, hb⟩
  have HS1 := Hid.intro' (SB.below' HN.out hb)
  have HD1 := Hid.intro' (DB.below' HM.out hb)
  have HB1 := Hid.intro' (below_class HB.out hb)
  clear hb HN HB HM
  by_cases hl : 300 < len
  · have hl' : (300 : Int) < (len : Int) := by omega
    have hl2 : decide ((300 : Int) < (len : Int)) = true := by simp; omega
    have hl3 : decide (300 < len) = true := by simp; omega
    go_wp2_with fail
    refine wp_region_quiet (C := fun w' => Below W1.heap.size W1 w') (by kernel_rfl) (by kernel_rfl) ((Below.refl _ W1).drew) ?_
    simp only []
    unfold wpQuiet
    generalize hK : wpQuiet Try.prog _ _ _ _ = K
    go_simp
    refine ⟨_, fun _ _ => rfl, ?_⟩
    subst hK
    unfold wpQuiet
    generalize hK : wpQuiet Try.prog _ _ _ _ = K
    go_simp
    refine ⟨_, fun _ _ => rfl, ?_⟩
    subst hK
    unfold wpQuiet
    generalize hK : wpQuiet Try.prog _ _ _ _ = K
    go_simp
    refine ⟨_, fun _ _ => rfl, ?_⟩
    subst hK
    unfold wpQuiet
    generalize hK : wpQuiet Try.prog _ _ _ _ = K
    go_simp
    refine ⟨_, fun _ _ => rfl, ?_⟩
    subst hK
    unfold wpQuiet
    generalize hK : wpQuiet Try.prog _ _ _ _ = K
    go_simp
    subst hK
    unfold wpQuiet
    generalize hK : wpQuiet Try.prog _ _ _ _ = K
    go_simp
    subst hK
    unfold wpQuiet
    generalize hK : wpQuiet Try.prog _ _ _ _ = K
    go_simp
    subst hK
    unfold wpQuiet
    generalize hK : wpQuiet Try.prog _ _ _ _ = K
    go_simp
    subst hK
    unfold wpQuiet
    generalize hK : wpQuiet Try.prog _ _ _ _ = K
    go_simp
    subst hK
    unfold wpQuiet
    generalize hK : wpQuiet Try.prog _ _ _ _ = K
    go_simp
    subst hK
    unfold wpQuiet
    generalize hK : wpQuiet Try.prog _ _ _ _ = K
    go_simp
    subst hK
    unfold wpQuiet
    generalize hK : wpQuiet Try.prog _ _ _ _ = K
    go_simp
    refine ⟨_, fun _ _ => rfl, ?_⟩
    subst hK
    refine wpQuiet_nil ?_
    intro W2 hb
    have HB2 := Hid.intro' (below_class HB1.out hb)
    clear hb
    go_wp2
    go_ret
    exact ⟨rfl, HB2.out⟩
  · have hl' : (len : Int) ≤ 300 := by omega
    have hl2 : decide ((300 : Int) < (len : Int)) = false := by simp; omega
    have hl3 : decide (300 < len) = false := by simp; omega
    go_wp2_with fail
    have hs : ∀ w', Below W1.heap.size W1 w' → SB w' w.heap.size s := fun w' h' => HS1.out.below' h'
    have hd : ∀ w', Below W1.heap.size W1 w' → DB w' (w.heap.size + 1) d.ph d.le d.ru d.he := fun w' h' => HD1.out.below' h'
    refine wp_region_quiet (C := fun w' => Below W1.heap.size W1 w') (by kernel_rfl) (by kernel_rfl) ((Below.refl _ W1).drew) ?_
    simp only []
    unfold wpQuiet
    generalize hK : wpQuiet Try.prog _ _ _ _ = K
    go_simp
    refine ⟨_, fun _ _ => rfl, ?_⟩
    subst hK
    unfold wpQuiet
    generalize hK : wpQuiet Try.prog _ _ _ _ = K
    go_simp
    refine ⟨_, fun _ _ => rfl, ?_⟩
    subst hK
    unfold wpQuiet
    generalize hK : wpQuiet Try.prog _ _ _ _ = K
    go_simp
    refine ⟨_, fun _ _ => rfl, ?_⟩
    subst hK
    unfold wpQuiet
    generalize hK : wpQuiet Try.prog _ _ _ _ = K
    go_simp
    refine ⟨_, fun _ _ => rfl, ?_⟩
    subst hK
    unfold wpQuiet
    generalize hK : wpQuiet Try.prog _ _ _ _ = K
    rw [if_pos (by go_simp)]
    refine quiet_load23 _ w.heap.size s rfl rfl hs ?_
    go_simp
    subst hK
    unfold wpQuiet
    generalize hK : wpQuiet Try.prog _ _ _ _ = K
    rw [if_pos (by go_simp)]
    refine quiet_loadD _ (w.heap.size + 1) rfl rfl hd ?_
    go_simp
    subst hK
    unfold wpQuiet
    generalize hK : wpQuiet Try.prog _ _ _ _ = K
    go_simp
    refine ⟨_, fun w' hw => (dright_any s _ _ _ _ w').mono fun e w'' hh => ⟨hh.1, below_class hw hh.2⟩, ?_⟩
    subst hK
    unfold wpQuiet
    generalize hK : wpQuiet Try.prog _ _ _ _ = K
    rw [if_pos (by go_simp)]
    refine quiet_load23 _ w.heap.size s rfl rfl hs ?_
    go_simp
    subst hK
    unfold wpQuiet
    generalize hK : wpQuiet Try.prog _ _ _ _ = K
    rw [if_pos (by go_simp)]
    refine quiet_loadD _ (w.heap.size + 1) rfl rfl hd ?_
    go_simp
    subst hK
    unfold wpQuiet
    generalize hK : wpQuiet Try.prog _ _ _ _ = K
    go_simp
    refine ⟨_, fun w' hw => (rdright_any s _ _ _ _ w').mono fun e w'' hh => ⟨hh.1, below_class hw hh.2⟩, ?_⟩
    subst hK
    unfold wpQuiet
    generalize hK : wpQuiet Try.prog _ _ _ _ = K
    go_simp
    refine ⟨_, fun _ _ => rfl, ?_⟩
    subst hK
    unfold wpQuiet
    generalize hK : wpQuiet Try.prog _ _ _ _ = K
    go_simp
    refine ⟨_, fun _ _ => rfl, ?_⟩
    subst hK
    refine wpQuiet_nil ?_
    intro W2 hb
    have HB2 := Hid.intro' (below_class HB1.out hb)
    have HS2 := Hid.intro' (hs W2 hb)
    have HD2 := Hid.intro' (hd W2 hb)
    clear hb hs hd HS1 HD1 HB1
    clear hl hl2 hl3
    cases hdr : drB s d.ph d.le d.ru d.he
    · go_wp2_with (first | (refine wpList_load23 rfl _ rfl w.heap.size s rfl HS2.out ?_) | (refine wpList_loadD rfl _ rfl (w.heap.size + 1) rfl HD2.out ?_))
      have c1 := rdright_any s d.ph d.le d.ru d.he W2
      rw [hdr] at c1
      refine c1.mono ?_
      clear c1
      rintro e W3 ⟨rfl, hb⟩
      have HB3 := Hid.intro' (below_class HB2.out hb)
      clear hb HS2 HD2 HB2
      go_wp2
      go_ret
      exact ⟨rfl, HB3.out⟩
    · have R : SM.Rt s := (drB_rt hdr).1
      have hrd : DM.Rd s d := (drB_rt hdr).2
      have HDR := Hid.intro' hdr
      clear hdr
      go_wp2_with (first | (refine wpList_load23 rfl _ rfl w.heap.size s rfl HS2.out ?_) | (refine wpList_loadD rfl _ rfl (w.heap.size + 1) rfl HD2.out ?_))
      have c1 := rdright_any s d.ph d.le d.ru d.he W2
      rw [HDR.out] at c1
      refine c1.mono ?_
      clear c1
      rintro e W3 ⟨rfl, hb⟩
      have HB3 := Hid.intro' (below_class HB2.out hb)
      have HS3 := Hid.intro' (HS2.out.below' hb)
      have HD3 := Hid.intro' (HD2.out.below' hb)
      clear hb HS2 HD2 HB2
      go_wp2
      go_loopw [33] (fun i wr => ∃ (k : Nat) (d : Dr), k ≤ len ∧ i = .int .i64 k ∧ DM.Rd s d ∧ DB wr (w.heap.size + 1) d.ph d.le d.ru d.he ∧ SB wr w.heap.size s ∧ Below w.heap.size w wr) (fun i _ => len - (intOf i).toNat)
      case atStart => exact ⟨0, d, by omega, rfl, hrd, HD3.out, HS3.out, HB3.out⟩
      case round =>
        obtain ⟨k, c, hk, rfl, hc, hd, hs, hb⟩ := hrel
        clear HD3 HS3 HB3 HDR hrd
        have HS := Hid.intro' hs
        have HD := Hid.intro' hd
        have HB := Hid.intro' hb
        by_cases hlt : k < len
        · have hkI : (k : Int) < (len : Int) := by omega
          obtain ⟨g, off, rfl, hcell⟩ : ∃ b off, a = some ⟨b, off, none⟩ ∧ ∀ w', Below w.heap.size w w' → ∀ i, i < len → ∃ v, w'.cell? ⟨b, off + i, none⟩ = some (.int .u8 v) := HLen.out.resolve_left (by omega)
          obtain ⟨v, hv⟩ := hcell wr HB.out k hlt
          clear hcell hs hd hb
          go_wp2_with (first | (refine wpList_load23 rfl _ rfl w.heap.size s rfl HS.out ?_) | (refine wpList_loadD rfl _ rfl (w.heap.size + 1) rfl HD.out ?_))
          refine (rstep_any s R c hc _ _ _).mono ?_
          rintro e W4 ⟨rfl, hb⟩
          have HS4 := Hid.intro' (HS.out.below' hb)
          have HD4 := Hid.intro' (HD.out.below' hb)
          have HB4 := Hid.intro' (below_class HB.out hb)
          have hc2 := DM.rd_step R hc (bits BinOp.and IntKind.u8 v 1 == 1) (bits BinOp.and IntKind.u8 v 2 == 2)
          have HC1 := Hid.intro' (fun W => step_any s R c hc (bits BinOp.and IntKind.u8 v 1 == 1) (bits BinOp.and IntKind.u8 v 2 == 2) W)
          generalize DM.step s c (bits BinOp.and IntKind.u8 v 1 == 1) (bits BinOp.and IntKind.u8 v 2 == 2) = c' at hc2 HC1 ⊢
          clear hb HS HD HB hv
          simp only [dv]
          go_wp2_with (first | (refine wpList_load23 rfl _ rfl w.heap.size s rfl (HS4.out.alloc _) ?_) | (refine wpList_loadD rfl _ rfl (w.heap.size + 1) rfl (HD4.out.alloc _) ?_))
          have HX4 := Hid.intro' (DB.new W4 c'.ph c'.le c'.ru c'.he)
          have HS5 := Hid.intro' (HS4.out.alloc (.cells #[.int .i64 c'.ph, .int .i64 c'.le, .int .i64 c'.ru, .bool c'.he] 35))
          have HD5 := Hid.intro' (HD4.out.alloc (.cells #[.int .i64 c'.ph, .int .i64 c'.le, .int .i64 c'.ru, .bool c'.he] 35))
          have HB5 := Hid.intro' (HB4.out.alloc HB4.out.size (.cells #[.int .i64 c'.ph, .int .i64 c'.le, .int .i64 c'.ru, .bool c'.he] 35))
          have hX : w.heap.size + 1 < W4.heap.size := HD4.out.lt
          refine (HC1.out _).mono ?_
          rintro e W5 ⟨rfl, hb⟩
          have HS6 := Hid.intro' (HS5.out.below' hb)
          have HD6 := Hid.intro' (HD5.out.below' hb)
          have HX6 := Hid.intro' (HX4.out.below' hb)
          have HB6 := Hid.intro' (below_class HB5.out hb)
          clear hb HS4 HD4 HB4 HS5 HD5 HB5 HX4 HC1
          generalize W4.heap.size = X at HX6 hX ⊢
          simp only [dv]
          go_wp2_with (refine wpList_storeD rfl _ _ rfl (w.heap.size + 1) rfl rfl HD6.out ?_)
          intro W6 hu hd
          have HS7 := Hid.intro' (hu.sb HS6.out (by omega))
          have HX7 := Hid.intro' (hu.db HX6.out (by omega))
          have HB7 := Hid.intro' (hu.below HB6.out (by omega))
          have HD7 := Hid.intro' hd
          clear hu hd HS6 HD6 HX6 HB6
          go_wp2_with (first | (refine wpList_loadD rfl _ rfl (w.heap.size + 1) rfl HD7.out ?_) | (refine wpList_loadD rfl _ rfl X rfl HX7.out ?_) | (refine wpList_load23g rfl _ rfl w.heap.size s rfl HS7.out ?_) | (refine wpList_loadDg rfl _ rfl (w.heap.size + 1) rfl HD7.out ?_))
          have c1 := dright_any s c'.ph c'.le c'.ru c'.he W6
          rw [drB_of R hc2] at c1
          refine c1.mono ?_
          clear c1
          rintro e W7 ⟨rfl, hb⟩
          have HS8 := Hid.intro' (HS7.out.below' hb)
          have HD8 := Hid.intro' (HD7.out.below' hb)
          have HB8 := Hid.intro' (below_class HB7.out hb)
          clear hb HS7 HD7 HB7 HX7
          go_wp2
          go_roundw
          case rel => exact ⟨k + 1, c', by omega, by go_num, hc2, HD8.out, HS8.out, HB8.out⟩
          case measure => simp [intOf]; omega
        · obtain rfl : k = len := by omega
          clear hs hd hb
          go_wp2
          go_ret
          exact ⟨rfl, HB.out⟩

end Go.Proofs.Ytpclpeeglmabhab
