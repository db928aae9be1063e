/- The walk of the law DoorHeld. -/
import Derived.Test.YtpclpeeglmabhacDoorK
import Derived.Test.YtpclpeeglmabhacBitM
namespace Go.Proofs.Ytpclpeeglmabhac
open Go.RowKit

/-- a door that is held -/
def hel (s : St) : Dr := ⟨2, s.wai, 1, true⟩
theorem rd_opened {s : St} (R : SM.Rt s) (_ : 1 ≤ s.nud) : DM.Rd s ⟨2, s.wai, 0, false⟩ := .inr ⟨by simp, R.nud1, R.wai1, Int.le_refl _, by simp, by simp⟩
theorem rd_hel {s : St} (R : SM.Rt s) (h : 1 ≤ s.nud) : DM.Rd s (hel s) := .inr ⟨by simp [hel], h, R.wai1, Int.le_refl _, by simp [hel], by simp [hel]⟩
theorem held_first {s : St} (h : 1 ≤ s.nud) : DM.step s ⟨2, s.wai, 0, false⟩ false true = hel s := by
  have h' : 0 < s.nud := by omega
  simp [DM.step, DM.hd, DM.on, DM.en, DM.tk, hel, h']
theorem held_on {s : St} : DM.step s (hel s) false true = hel s := by
  simp [DM.step, DM.hd, DM.on, DM.en, DM.tk, hel]
theorem held_off {s : St} : DM.step s (hel s) false false = if 1 < s.wai then ⟨2, s.wai - 1, 1, false⟩ else ⟨3, s.clo, 1, false⟩ := by
  simp [DM.step, DM.hd, DM.on, DM.ps, DM.en, DM.tk, hel]

set_option maxRecDepth 100000 in
set_option maxHeartbeats 4000000 in
theorem held_of (s : St) (t : Int) (w : World) :
    Calls Try.prog 3 #[.agg (sv s).toArray, .int .i64 t] w fun e w' => e = .returned (.bool true) ∧ Below w.heap.size w w' := by
  have HB : Hid (Below w.heap.size w (w.alloc (.cells (sv s).toArray 23))) := Hid.intro' ((Below.refl _ w).alloc (Nat.le_refl _) _)
  have HN := Hid.intro' (SB.new w s)
  go_enter Try.func3, Try.ntmps3
  go_wp2_with fail
  obtain ⟨B, hB⟩ : ∃ B, w.heap.size = B := ⟨_, rfl⟩
  rw [show Value.pointer (some ⟨w.heap.size, 0, none⟩) = Value.pointer (some ⟨B, 0, none⟩) by rw [hB]]
  rw [hB] at HN
  refine (dspeaks_any _).mono ?_
  rintro e W1 ⟨rfl, hb⟩
  have HS1 := Hid.intro' (SB.below' HN.out hb)
  have HB1 := Hid.intro' (below_class HB.out hb)
  clear hb HN HB
  by_cases hr : SM.Rt s
  · go_wp2_with (refine wpList_load23 rfl _ rfl B s rfl HS1.out ?_)
    refine (rright_t s hr _).mono ?_
    rintro e W2 ⟨rfl, hb⟩
    have HS2 := Hid.intro' (SB.below' HS1.out hb)
    have HB2 := Hid.intro' (below_class HB1.out hb)
    clear hb HS1 HB1
    have c6 : W2.cell? ⟨B, 6, none⟩ = some (.int .i64 s.wai) := HS2.out.cell 6
    have c8 : W2.cell? ⟨B, 8, none⟩ = some (.int .i64 s.nud) := HS2.out.cell 8
    by_cases hn : s.nud < 1
    · go_wp2
      go_ret
      exact ⟨rfl, HB2.out⟩
    · have hn' : 1 ≤ s.nud := by omega
      clear hn
      obtain ⟨N, hN, hN1, hN2⟩ : ∃ N : Nat, wrap64 (bits BinOp.and IntKind.i64 t 63 + 1) = (N : Int) ∧ 1 ≤ N ∧ N ≤ 64 := by
        rw [i64_and63]
        refine ⟨(t % 64).toNat + 1, ?_, by omega, by omega⟩
        unfold wrap64
        omega
      have HN1 := Hid.intro' hN
      clear hN
      go_wp2
      have HB3 := Hid.intro' (HB2.out.alloc HB2.out.size (.cells #[.int .i64 2, .int .i64 s.wai, .int .i64 0, .bool false] 27))
      have HS3 := Hid.intro' (HS2.out.alloc (.cells #[.int .i64 2, .int .i64 s.wai, .int .i64 0, .bool false] 27))
      have HD3 := Hid.intro' (DB.new W2 2 s.wai 0 false)
      have hBD : B < W2.heap.size := HS2.out.lt
      have hwD : w.heap.size ≤ W2.heap.size := HB2.out.size
      generalize W2.alloc (.cells #[.int .i64 2, .int .i64 s.wai, .int .i64 0, .bool false] 27) = W3 at HB3 HS3 HD3 ⊢
      generalize W2.heap.size = D at HD3 hBD hwD ⊢
      rw [HN1.out]
      clear HS2 HB2 c6 c8 HN1
      go_loopw [7] (fun i wr => ∃ k : Nat, k ≤ N ∧ i = .int .i64 k ∧ SB wr B s ∧ (if k = 0 then DB wr D 2 s.wai 0 false else DB wr D 2 s.wai 1 true) ∧ Below w.heap.size w wr) (fun i _ => N - (intOf i).toNat)
      case atStart => exact ⟨0, by omega, rfl, HS3.out, HD3.out, HB3.out⟩
      case round =>
        obtain ⟨k, hk, rfl, hs, hd, hb⟩ := hrel
        clear HS3 HD3 HB3
        have HS := Hid.intro' hs
        have HB := Hid.intro' hb
        by_cases hlt : k < N
        · have hkI : (k : Int) < (N : Int) := by omega
          obtain ⟨r0, h0, hd', hrd, hst⟩ : ∃ (r0 : Int) (h0 : Bool), DB wr D 2 s.wai r0 h0 ∧ DM.Rd s ⟨2, s.wai, r0, h0⟩ ∧ DM.step s ⟨2, s.wai, r0, h0⟩ false true = hel s := by
            by_cases hk0 : k = 0
            · rw [if_pos hk0] at hd
              exact ⟨0, false, hd, rd_opened hr hn', held_first hn'⟩
            · rw [if_neg hk0] at hd
              exact ⟨1, true, hd, rd_hel hr hn', held_on⟩
          have HD := Hid.intro' hd'
          have HR := Hid.intro' hrd
          have HT := Hid.intro' hst
          clear hs hb hd hd' hrd hst
          go_wp2_with (first | (refine wpList_load23 rfl _ rfl B s rfl HS.out ?_) | (refine wpList_loadD rfl _ rfl D rfl HD.out ?_))
          have c1 := step_any s hr ⟨2, s.wai, r0, h0⟩ HR.out false true wr
          rw [HT.out] at c1
          refine c1.mono ?_
          clear c1
          rintro e W4 ⟨rfl, hb⟩
          have HS4 := Hid.intro' (SB.below' HS.out hb)
          have HD4 := Hid.intro' (DB.below' HD.out hb)
          have HB4 := Hid.intro' (below_class HB.out hb)
          clear hb HS HD HB
          simp only [dv, hel]
          go_wp2_with (refine wpList_storeD rfl _ _ rfl D rfl rfl HD4.out ?_)
          intro W5 hu hd
          have HS5 := Hid.intro' (hu.sb HS4.out (by omega))
          have HB5 := Hid.intro' (hu.below HB4.out hwD)
          have HD5 := Hid.intro' hd
          have c6 : W5.cell? ⟨B, 6, none⟩ = some (.int .i64 s.wai) := HS5.out.cell 6
          clear hu hd HS4 HB4 HD4
          go_wp2_with (refine wpList_loadD rfl _ rfl D rfl HD5.out ?_)
          go_roundw
          case rel => exact ⟨k + 1, by omega, by go_num, HS5.out, by rw [if_neg (by omega)]; exact HD5.out, HB5.out⟩
          case measure => simp [intOf]; omega
        · obtain rfl : k = N := by omega
          rw [if_neg (by omega)] at hd
          have HD := Hid.intro' hd
          clear hs hd hb
          go_wp2_with (first | (refine wpList_load23 rfl _ rfl B s rfl HS.out ?_) | (refine wpList_loadD rfl _ rfl D rfl HD.out ?_))
          have c1 := step_any s hr (hel s) (rd_hel hr hn') false false wr
          rw [held_off] at c1
          by_cases hw : 1 < s.wai
          · rw [if_pos hw] at c1
            refine c1.mono ?_
            clear c1
            rintro e W4 ⟨rfl, hb⟩
            have HS4 := Hid.intro' (SB.below' HS.out hb)
            have HD4 := Hid.intro' (DB.below' HD.out hb)
            have HB4 := Hid.intro' (below_class HB.out hb)
            clear hb HS HD HB
            simp only [dv]
            go_wp2_with (refine wpList_storeD rfl _ _ rfl D rfl rfl HD4.out ?_)
            intro W5 hu hd
            have HS5 := Hid.intro' (hu.sb HS4.out (by omega))
            have HB5 := Hid.intro' (hu.below HB4.out hwD)
            have c6 : W5.cell? ⟨B, 6, none⟩ = some (.int .i64 s.wai) := HS5.out.cell 6
            have a0 := hd.c0; have a2 := hd.c2; have a3 := hd.c3
            clear hu hd HS4 HB4 HD4 HS5
            have hw' : (s.wai == 1) = false := by simp; omega
            go_wp2
            go_ret
            exact ⟨rfl, HB5.out⟩
          · rw [if_neg hw] at c1
            refine c1.mono ?_
            clear c1
            rintro e W4 ⟨rfl, hb⟩
            have HS4 := Hid.intro' (SB.below' HS.out hb)
            have HD4 := Hid.intro' (DB.below' HD.out hb)
            have HB4 := Hid.intro' (below_class HB.out hb)
            clear hb HS HD HB
            simp only [dv]
            go_wp2_with (refine wpList_storeD rfl _ _ rfl D rfl rfl HD4.out ?_)
            intro W5 hu hd
            have HS5 := Hid.intro' (hu.sb HS4.out (by omega))
            have HB5 := Hid.intro' (hu.below HB4.out hwD)
            have c6 : W5.cell? ⟨B, 6, none⟩ = some (.int .i64 s.wai) := HS5.out.cell 6
            have a0 := hd.c0; have a2 := hd.c2; have a3 := hd.c3
            clear hu hd HS4 HB4 HD4 HS5
            have hw' : (s.wai == 1) = true := by have := hr.wai1; simp; omega
            go_wp2
            go_ret
            exact ⟨rfl, HB5.out⟩
  · go_wp2_with (first | (refine wpList_load23 rfl _ rfl B s rfl HS1.out ?_) | (go_at_call 5; refine (rright_f s hr _).mono ?_; rintro e W2 ⟨rfl, hb⟩))
    go_ret
    exact ⟨rfl, below_class HB1.out hb⟩

end Go.Proofs.Ytpclpeeglmabhac
