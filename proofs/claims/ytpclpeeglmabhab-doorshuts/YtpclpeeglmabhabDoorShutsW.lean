/- The walk of the law DoorShuts. -/
import Derived.Test.YtpclpeeglmabhabDoorL
import Derived.Test.YtpclpeeglmabhabDoorShutsM
import Derived.Test.YtpclpeeglmabhabBitM
namespace Go.Proofs.Ytpclpeeglmabhab
open Go.RowKit

/-- the lesser one of a number and another's three low bits -/
def lmin (q v : Int) : Int := if q < bits BinOp.and IntKind.i64 v 7 then q else bits BinOp.and IntKind.i64 v 7
/-- the two next bits, and one more -/
def gadd (v : Int) : Int := IntKind.i64.wrap (bits BinOp.and IntKind.i64 (v / 8) 3 + 1)
theorem gadd_bd (v : Int) : 1 ≤ gadd v ∧ gadd v ≤ 4 := by
  unfold gadd
  rw [i64_and3, IntWalk.i64_in _ ⟨by omega, by omega⟩]
  omega
theorem lmin_bd {q v : Int} (h : 0 ≤ q) : 0 ≤ lmin q v ∧ lmin q v ≤ q := by
  unfold lmin
  rw [i64_and7]
  split <;> omega

set_option maxRecDepth 100000 in
set_option maxHeartbeats 4000000 in
theorem shuts_of (s : St) (hold : Int) (a : Option Addr) (len cap : Nat) (w : World) (hlen : len = 0 ∨ ∃ b off, a = some ⟨b, off, none⟩ ∧ ∀ w', Below w.heap.size w w' → ∀ i, i < len → ∃ v, w'.cell? ⟨b, off + i, none⟩ = some (.int .i64 v)) :
    Calls Try.prog 7 #[.agg (sv s).toArray, .int .i64 hold, .slice a len cap] w fun e w' => e = .returned (.bool true) ∧ Below w.heap.size w w' := by
  have HB : Hid (Below w.heap.size w (w.alloc (.cells (sv s).toArray 23))) := Hid.intro' ((Below.refl _ w).alloc (Nat.le_refl _) _)
  have HN := Hid.intro' (SB.new w s)
  have HLen := Hid.intro' hlen
  clear hlen
  go_enter Try.func7, Try.ntmps7
  go_wp2_with fail
  obtain ⟨B, hB⟩ : ∃ B, w.heap.size = B := ⟨_, rfl⟩
  rw [show Value.pointer (some ⟨w.heap.size, 0, none⟩) = Value.pointer (some ⟨B, 0, none⟩) by rw [hB]]
  rw [hB] at HN
  refine (dspeaks_any _).mono ?_
  rintro e W1 ⟨rfl, hb⟩
  have HS1 := Hid.intro' (SB.below' HN.out hb)
  have HB1 := Hid.intro' (below_class HB.out hb)
  clear hb HN HB
  by_cases hr : SM.Rt s
  · go_wp2_with (refine wpList_load23 rfl _ rfl B s rfl HS1.out ?_)
    refine (rright_t s hr _).mono ?_
    rintro e W2 ⟨rfl, hb⟩
    have HS2 := Hid.intro' (SB.below' HS1.out hb)
    have HB2 := Hid.intro' (below_class HB1.out hb)
    clear hb HS1 HB1
    have c5 : W2.cell? ⟨B, 5, none⟩ = some (.int .i64 s.opn) := HS2.out.cell 5
    have c6 : W2.cell? ⟨B, 6, none⟩ = some (.int .i64 s.wai) := HS2.out.cell 6
    have c7 : W2.cell? ⟨B, 7, none⟩ = some (.int .i64 s.clo) := HS2.out.cell 7
    have c8 : W2.cell? ⟨B, 8, none⟩ = some (.int .i64 s.nud) := HS2.out.cell 8
    have o1 := hr.opn1; have o2 := hr.opn2; have w1 := hr.wai1; have w2 := hr.wai2; have k1 := hr.clo1; have k2 := hr.clo2
    by_cases hl : 200 < len
    · have hl' : (200 : Int) < (len : Int) := by omega
      go_wp2
      go_ret
      exact ⟨rfl, HB2.out⟩
    · have hl' : (len : Int) ≤ 200 := by omega
      by_cases hsum : 60 < s.opn + s.wai + s.clo
      · go_wp2
        go_ret
        exact ⟨rfl, HB2.out⟩
      · have hsum' : s.opn + s.wai + s.clo ≤ 60 := by omega
        obtain ⟨q, hq, q1, q2⟩ : ∃ q : Int, bits BinOp.and IntKind.i64 hold 7 = q ∧ 0 ≤ q ∧ q ≤ 7 := by
          rw [i64_and7]
          exact ⟨hold % 8, rfl, by omega, by omega⟩
        have hm : 0 ≤ s.nud * (s.opn + s.wai + s.clo + 4 + q) ∧ s.nud * (s.opn + s.wai + s.clo + 4 + q) ≤ 710 := by
          have n1 := hr.nud1; have n2 := hr.nud2
          constructor
          · exact Int.mul_nonneg n1 (by omega)
          · exact Int.le_trans (Int.mul_le_mul n2 (show s.opn + s.wai + s.clo + 4 + q ≤ 71 by omega) (by omega) (by omega)) (by omega)
        obtain ⟨m1, m2⟩ := hm
        clear hsum hl
        go_wp2_with (refine wpList_load23 rfl _ rfl B s rfl HS2.out ?_)
        refine (step_shut s true true _).mono ?_
        rintro e W3 ⟨rfl, hb⟩
        have HS3 := Hid.intro' (SB.below' HS2.out hb)
        have HB3 := Hid.intro' (below_class HB2.out hb)
        clear hb HS2 HB2 c5 c6 c7 c8
        rw [show DM.step s DM.z true true = ⟨1, s.opn, 0, false⟩ from rfl]
        simp only [dv]
        go_wp2_with (first | (refine wpList_load23 rfl _ rfl B s rfl (HS3.out.alloc _) ?_) | (refine wpList_load23g rfl _ rfl B s rfl (HS3.out.alloc _) ?_))
        have HB4 := Hid.intro' (HB3.out.alloc HB3.out.size (.cells #[.int .i64 1, .int .i64 s.opn, .int .i64 0, .bool false] 35))
        have HS4 := Hid.intro' (HS3.out.alloc (.cells #[.int .i64 1, .int .i64 s.opn, .int .i64 0, .bool false] 35))
        have HD4 := Hid.intro' (DB.new W3 1 s.opn 0 false)
        have hBD : B < W3.heap.size := HS3.out.lt
        have hwD : w.heap.size ≤ W3.heap.size := HB3.out.size
        refine (step_shut s false true _).mono ?_
        rintro e W5 ⟨rfl, hb⟩
        have HB5 := Hid.intro' (below_class HB4.out hb)
        have HS5 := Hid.intro' (SB.below' HS4.out hb)
        have HD5 := Hid.intro' (DB.below' HD4.out hb)
        generalize W3.heap.size = D at HD5 hBD hwD ⊢
        clear hb HS3 HB3 HS4 HB4 HD4
        rw [show DM.step s DM.z false true = ⟨0, 0, 0, false⟩ from rfl]
        simp only [dv]
        generalize hL : s.opn + s.wai + s.clo + 4 + s.nud * (s.opn + s.wai + s.clo + 4 + q) = L
        have HL := Hid.intro' hL
        have L1 : 0 ≤ L := by omega
        have L2 : L ≤ 1000 := by omega
        have HQ := Hid.intro' hq
        clear hL hq
        go_wp2
        go_loopw [10, 11, 12, 13] (fun vn vl vg vx wr => ∃ (n left gap : Int) (x : Nat) (d : Dr), vn = .int .i64 n ∧ vl = .int .i64 left ∧ vg = .int .i64 gap ∧ vx = .int .i64 x ∧ DM.Iv s q d left gap ∧ 0 ≤ n ∧ n + DM.phi s q d left + 4 ≤ L ∧ x ≤ len ∧ DB wr D d.ph d.le d.ru d.he ∧ SB wr B s ∧ Below w.heap.size w wr) (fun vn _ _ _ _ => (L - intOf vn).toNat)
        case atStart =>
          refine ⟨0, 0, 0, 0, ⟨1, s.opn, 0, false⟩, rfl, rfl, rfl, rfl, ⟨.inr ⟨by simp, hr.nud1, o1, Int.le_refl _, by simp, by simp⟩, by omega, q1, by omega, by omega, by omega, by simp, by simp, by simp⟩, by omega, ?_, by omega, HD5.out, HS5.out, HB5.out⟩
          have := HL.out
          simp [DM.phi, DM.bas, DM.cst]
          omega
        case round =>
          obtain ⟨n, left, gap, x, d, rfl, rfl, rfl, rfl, hI, hn0, hph, hx, hd, hs, hb⟩ := hrel
          clear HS5 HD5 HB5
          have HS := Hid.intro' hs
          have HD := Hid.intro' hd
          have HB := Hid.intro' hb
          have HI := Hid.intro' hI
          have HP := Hid.intro' hph
          have hnn := DM.phi_nn hr hI.rd q1 hI.l0
          have hnL : n ≤ L := by omega
          have hL0 := hI.l0
          have hG0 := hI.g0
          have hLk := hI.lk
          have hG4 := hI.g4
          have hxI : (x : Int) ≤ 200 := by omega
          by_cases hp : d.ph = 0
          · have hz : d = DM.z := by
              rcases hI.rd with e | e
              · exact e
              · have := e.p1; omega
            subst hz
            have a0 := hd.c0
            clear hI hph hnn hs hd hb hp
            simp only [DM.z] at a0
            go_wp2_with (refine wpList_loadD rfl _ rfl D rfl HD.out ?_)
            go_ret
            exact ⟨rfl, HB.out⟩
          · have hpb : (d.ph != 0) = true := by simpa using hp
            have a0 := hd.c0
            have HPh := Hid.intro' hp
            clear hI hph hnn hs hd hb hp
            by_cases hl0 : 0 < left
            · have hlb : (left == 0) = false := by simp; omega
              go_wp2_with (first | (refine wpList_load23 rfl _ rfl B s rfl HS.out ?_) | (refine wpList_loadD rfl _ rfl D rfl HD.out ?_))
              have hst := DM.iv_step hr q1 HI.out HPh.out hl0
              have HST := Hid.intro' hst
              clear hst
              refine (step_any s hr d HI.out.rd false true _).mono ?_
              rintro e W6 ⟨rfl, hb⟩
              have HS6 := Hid.intro' (SB.below' HS.out hb)
              have HD6 := Hid.intro' (DB.below' HD.out hb)
              have HB6 := Hid.intro' (below_class HB.out hb)
              clear hb HS HD HB
              generalize DM.step s d false true = c at HST ⊢
              simp only [dv]
              go_wp2_with (refine wpList_storeD rfl _ _ rfl D rfl rfl HD6.out ?_)
              intro W7 hu hd
              have HS7 := Hid.intro' (hu.sb HS6.out (by omega))
              have HB7 := Hid.intro' (hu.below HB6.out hwD)
              have HD7 := Hid.intro' hd
              clear hu hd HS6 HB6 HD6
              go_wp2
              go_roundw
              case rel => exact ⟨n + 1, left - 1, gap, x, c, by go_num, by go_num, by go_num, by go_num, HST.out.1, by omega, by have := HST.out.2; have := HP.out; omega, by omega, HD7.out, HS7.out, HB7.out⟩
              case measure => have h1 := HST.out.2; have h2 := HP.out; have h3 := DM.phi_nn hr HST.out.1.rd q1 HST.out.1.l0; simp [intOf]; omega
            · obtain rfl : left = 0 := by omega
              clear hl0 hL0 hLk
              by_cases hg0 : 0 < gap
              · have hgb : (gap == 0) = false := by simp; omega
                go_wp2_with (first | (refine wpList_load23 rfl _ rfl B s rfl HS.out ?_) | (refine wpList_loadD rfl _ rfl D rfl HD.out ?_))
                have hst := DM.iv_gap (gap' := gap - 1) hr q1 HI.out HPh.out (by omega) (by omega)
                have HST := Hid.intro' hst
                clear hst
                refine (step_any s hr d HI.out.rd false false _).mono ?_
                rintro e W6 ⟨rfl, hb⟩
                have HS6 := Hid.intro' (SB.below' HS.out hb)
                have HD6 := Hid.intro' (DB.below' HD.out hb)
                have HB6 := Hid.intro' (below_class HB.out hb)
                clear hb HS HD HB
                generalize DM.step s d false false = c at HST ⊢
                simp only [dv]
                go_wp2_with (refine wpList_storeD rfl _ _ rfl D rfl rfl HD6.out ?_)
                intro W7 hu hd
                have HS7 := Hid.intro' (hu.sb HS6.out (by omega))
                have HB7 := Hid.intro' (hu.below HB6.out hwD)
                have HD7 := Hid.intro' hd
                clear hu hd HS6 HB6 HD6
                go_wp2
                go_roundw
                case rel => exact ⟨n + 1, 0, gap - 1, x, c, by go_num, by go_num, by go_num, by go_num, HST.out.1, by omega, by have := HST.out.2; have := HP.out; omega, by omega, HD7.out, HS7.out, HB7.out⟩
                case measure => have h1 := HST.out.2; have h2 := HP.out; have h3 := DM.phi_nn hr HST.out.1.rd q1 HST.out.1.l0; simp [intOf]; omega
              · obtain rfl : gap = 0 := by omega
                clear hg0 hG0 hG4
                by_cases hxl : x < len
                · have hxl' : (x : Int) < (len : Int) := by omega
                  obtain ⟨g, off, rfl, hcell⟩ : ∃ b off, a = some ⟨b, off, none⟩ ∧ ∀ w', Below w.heap.size w w' → ∀ i, i < len → ∃ v, w'.cell? ⟨b, off + i, none⟩ = some (.int .i64 v) := HLen.out.resolve_left (by omega)
                  obtain ⟨v, hv0⟩ := hcell wr HB.out x hxl
                  have hv : ∀ w', Below wr.heap.size wr w' → w'.cell? ⟨g, off + x, none⟩ = some (.int .i64 v) := fun w' h' => (h'.cell (p := ⟨g, off + x, none⟩) (block_lt_of_cell hv0)).trans hv0
                  clear hcell hv0
                  go_wp2
                  refine wp_region_quiet (C := fun w' => Below wr.heap.size wr w') (by kernel_rfl) (by kernel_rfl) ((Below.refl _ wr).drew) ?_
                  simp only []
                  unfold wpQuiet
                  generalize hK : wpQuiet Try.prog _ _ _ _ = K
                  go_simp
                  refine ⟨_, fun _ _ => rfl, ?_⟩
                  subst hK
                  unfold wpQuiet
                  generalize hK : wpQuiet Try.prog _ _ _ _ = K
                  go_simp
                  refine ⟨_, fun _ _ => rfl, ?_⟩
                  subst hK
                  unfold wpQuiet
                  generalize hK : wpQuiet Try.prog _ _ _ _ = K
                  go_simp
                  refine ⟨_, fun _ _ => rfl, ?_⟩
                  subst hK
                  unfold wpQuiet
                  generalize hK : wpQuiet Try.prog _ _ _ _ = K
                  rw [if_pos (by go_simp)]
                  refine quiet_load3 _ _ _ rfl rfl hv ?_
                  go_simp
                  subst hK
                  unfold wpQuiet
                  generalize hK : wpQuiet Try.prog _ _ _ _ = K
                  go_simp
                  refine ⟨_, fun _ _ => rfl, ?_⟩
                  subst hK
                  unfold wpQuiet
                  generalize hK : wpQuiet Try.prog _ _ _ _ = K
                  go_simp
                  refine ⟨_, fun _ _ => rfl, ?_⟩
                  subst hK
                  unfold wpQuiet
                  generalize hK : wpQuiet Try.prog _ _ _ _ = K
                  go_simp
                  refine ⟨.int .i64 (lmin q v), fun _ _ => rfl, ?_⟩
                  subst hK
                  unfold wpQuiet
                  generalize hK : wpQuiet Try.prog _ _ _ _ = K
                  go_simp
                  refine ⟨_, fun _ _ => rfl, ?_⟩
                  subst hK
                  unfold wpQuiet
                  generalize hK : wpQuiet Try.prog _ _ _ _ = K
                  go_simp
                  refine ⟨_, fun _ _ => rfl, ?_⟩
                  subst hK
                  unfold wpQuiet
                  generalize hK : wpQuiet Try.prog _ _ _ _ = K
                  go_simp
                  refine ⟨_, fun _ _ => rfl, ?_⟩
                  subst hK
                  unfold wpQuiet
                  generalize hK : wpQuiet Try.prog _ _ _ _ = K
                  rw [if_pos (by go_simp)]
                  refine quiet_load3 _ _ _ rfl rfl hv ?_
                  go_simp
                  subst hK
                  unfold wpQuiet
                  generalize hK : wpQuiet Try.prog _ _ _ _ = K
                  go_simp
                  refine ⟨_, fun _ _ => rfl, ?_⟩
                  subst hK
                  unfold wpQuiet
                  generalize hK : wpQuiet Try.prog _ _ _ _ = K
                  go_simp
                  refine ⟨_, fun _ _ => rfl, ?_⟩
                  subst hK
                  unfold wpQuiet
                  generalize hK : wpQuiet Try.prog _ _ _ _ = K
                  go_simp
                  refine ⟨.int .i64 (gadd v), fun _ _ => rfl, ?_⟩
                  subst hK
                  unfold wpQuiet
                  generalize hK : wpQuiet Try.prog _ _ _ _ = K
                  go_simp
                  refine ⟨_, fun _ _ => rfl, ?_⟩
                  subst hK
                  unfold wpQuiet
                  generalize hK : wpQuiet Try.prog _ _ _ _ = K
                  go_simp
                  refine ⟨_, fun _ _ => rfl, ?_⟩
                  subst hK
                  refine wpQuiet_nil ?_
                  intro W4 hb
                  have HS4 := Hid.intro' (SB.below' HS.out hb)
                  have HD4 := Hid.intro' (DB.below' HD.out hb)
                  have HB4 := Hid.intro' (below_class HB.out hb)
                  have a4 := HD4.out.c0
                  have b1 := lmin_bd (v := v) q1
                  have b2 := gadd_bd v
                  generalize lmin q v = l1 at b1 ⊢
                  generalize gadd v = g1 at b2 ⊢
                  obtain ⟨b1, b1'⟩ := b1
                  obtain ⟨b2, b2'⟩ := b2
                  have hpk := DM.iv_pick HI.out b1 b1' b2 b2'
                  have HI2 := Hid.intro' hpk.1
                  have HP2 : Hid (n + DM.phi s q d l1 + 4 ≤ L) := Hid.intro' (by rw [hpk.2]; exact HP.out)
                  clear hb hpk HI HP HS HD HB a0 hv
                  by_cases hl0 : 0 < l1
                  · skip
                    go_wp2_with (first | (refine wpList_load23 rfl _ rfl B s rfl HS4.out ?_) | (refine wpList_loadD rfl _ rfl D rfl HD4.out ?_))
                    have hst := DM.iv_step hr q1 HI2.out HPh.out hl0
                    have HST := Hid.intro' hst
                    clear hst
                    refine (step_any s hr d HI2.out.rd false true _).mono ?_
                    rintro e W6 ⟨rfl, hb⟩
                    have HS6 := Hid.intro' (SB.below' HS4.out hb)
                    have HD6 := Hid.intro' (DB.below' HD4.out hb)
                    have HB6 := Hid.intro' (below_class HB4.out hb)
                    clear hb HS4 HD4 HB4
                    generalize DM.step s d false true = c at HST ⊢
                    simp only [dv]
                    go_wp2_with (refine wpList_storeD rfl _ _ rfl D rfl rfl HD6.out ?_)
                    intro W7 hu hd
                    have HS7 := Hid.intro' (hu.sb HS6.out (by omega))
                    have HB7 := Hid.intro' (hu.below HB6.out hwD)
                    have HD7 := Hid.intro' hd
                    clear hu hd HS6 HB6 HD6
                    go_wp2
                    go_roundw
                    case rel => exact ⟨n + 1, l1 - 1, g1, x + 1, c, by go_num, by go_num, by go_num, by go_num, HST.out.1, by omega, by have := HST.out.2; have := HP2.out; omega, by omega, HD7.out, HS7.out, HB7.out⟩
                    case measure => have h1 := HST.out.2; have h2 := HP2.out; have h3 := DM.phi_nn hr HST.out.1.rd q1 HST.out.1.l0; simp [intOf]; omega
                  · obtain rfl : l1 = 0 := by omega
                    clear hl0 b1 b1'
                    go_wp2_with (first | (refine wpList_load23 rfl _ rfl B s rfl HS4.out ?_) | (refine wpList_loadD rfl _ rfl D rfl HD4.out ?_))
                    have hst := DM.iv_gap (gap' := g1 - 1) hr q1 HI2.out HPh.out (by omega) (by omega)
                    have HST := Hid.intro' hst
                    clear hst
                    refine (step_any s hr d HI2.out.rd false false _).mono ?_
                    rintro e W6 ⟨rfl, hb⟩
                    have HS6 := Hid.intro' (SB.below' HS4.out hb)
                    have HD6 := Hid.intro' (DB.below' HD4.out hb)
                    have HB6 := Hid.intro' (below_class HB4.out hb)
                    clear hb HS4 HD4 HB4
                    generalize DM.step s d false false = c at HST ⊢
                    simp only [dv]
                    go_wp2_with (refine wpList_storeD rfl _ _ rfl D rfl rfl HD6.out ?_)
                    intro W7 hu hd
                    have HS7 := Hid.intro' (hu.sb HS6.out (by omega))
                    have HB7 := Hid.intro' (hu.below HB6.out hwD)
                    have HD7 := Hid.intro' hd
                    clear hu hd HS6 HB6 HD6
                    go_wp2
                    go_roundw
                    case rel => exact ⟨n + 1, 0, g1 - 1, x + 1, c, by go_num, by go_num, by go_num, by go_num, HST.out.1, by omega, by have := HST.out.2; have := HP2.out; omega, by omega, HD7.out, HS7.out, HB7.out⟩
                    case measure => have h1 := HST.out.2; have h2 := HP2.out; have h3 := DM.phi_nn hr HST.out.1.rd q1 HST.out.1.l0; simp [intOf]; omega
                · obtain rfl : x = len := by omega
                  clear hxl
                  go_wp2_with (first | (refine wpList_load23 rfl _ rfl B s rfl HS.out ?_) | (refine wpList_loadD rfl _ rfl D rfl HD.out ?_))
                  have hst := DM.iv_gap (gap' := 0) hr q1 HI.out HPh.out (by omega) (by omega)
                  have HST := Hid.intro' hst
                  clear hst
                  refine (step_any s hr d HI.out.rd false false _).mono ?_
                  rintro e W6 ⟨rfl, hb⟩
                  have HS6 := Hid.intro' (SB.below' HS.out hb)
                  have HD6 := Hid.intro' (DB.below' HD.out hb)
                  have HB6 := Hid.intro' (below_class HB.out hb)
                  clear hb HS HD HB
                  generalize DM.step s d false false = c at HST ⊢
                  simp only [dv]
                  go_wp2_with (refine wpList_storeD rfl _ _ rfl D rfl rfl HD6.out ?_)
                  intro W7 hu hd
                  have HS7 := Hid.intro' (hu.sb HS6.out (by omega))
                  have HB7 := Hid.intro' (hu.below HB6.out hwD)
                  have HD7 := Hid.intro' hd
                  clear hu hd HS6 HB6 HD6
                  go_wp2
                  go_roundw
                  case rel => exact ⟨n + 1, 0, 0, x, c, by go_num, by go_num, by go_num, by go_num, HST.out.1, by omega, by have := HST.out.2; have := HP.out; omega, by omega, HD7.out, HS7.out, HB7.out⟩
                  case measure => have h1 := HST.out.2; have h2 := HP.out; have h3 := DM.phi_nn hr HST.out.1.rd q1 HST.out.1.l0; simp [intOf]; omega
  · go_wp2_with (refine wpList_load23 rfl _ rfl B s rfl HS1.out ?_)
    refine (rright_f s hr _).mono ?_
    rintro e W2 ⟨rfl, hb⟩
    have HB2 := Hid.intro' (below_class HB1.out hb)
    clear hb HB1 HS1
    go_wp2
    go_ret
    exact ⟨rfl, HB2.out⟩

end Go.Proofs.Ytpclpeeglmabhab
