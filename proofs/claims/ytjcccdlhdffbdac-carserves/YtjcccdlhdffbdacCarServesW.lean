/- The walk of the law CarServes. -/
import Derived.Test.YtjcccdlhdffbdacCarK
import Derived.Test.YtjcccdlhdffbdacCarV
import Derived.Test.YtjcccdlhdffbdacSiteSr
namespace Go.Proofs.Ytjcccdlhdffbdac
open Go.RowKit

theorem cstep_to {s : St} {c x : Cr} (h : CM.Rc s c) {o : Bool} {g : Int} {b : Bool} (hx : CM.step s c o g b = x) (w : World) :
    Calls Try.prog 16 #[.agg (sv s).toArray, .agg #[.int .i64 c.fl, .int .i64 c.tg, .int .i64 c.ti, .int .i64 c.d.ph, .int .i64 c.d.le, .int .i64 c.d.ru, .bool c.d.he, .bool c.fa], .agg #[.bool o, .int .i64 g], .bool b] w fun e w' => e = .returned (.agg #[.int .i64 x.fl, .int .i64 x.tg, .int .i64 x.ti, .int .i64 x.d.ph, .int .i64 x.d.le, .int .i64 x.d.ru, .bool x.d.he, .bool x.fa]) ∧ Below w.heap.size w w' := by
  subst hx
  exact cstep_any s c h o g b w
theorem idle_t (c : Cr) (h : CM.idle c = true) (w : World) : Calls Try.prog 18 #[.agg #[.int .i64 c.fl, .int .i64 c.tg, .int .i64 c.ti, .int .i64 c.d.ph, .int .i64 c.d.le, .int .i64 c.d.ru, .bool c.d.he, .bool c.fa]] w fun e w' => e = .returned (.bool true) ∧ Below w.heap.size w w' := by
  have := idle_any c w
  rwa [h] at this
theorem idle_f (c : Cr) (h : CM.idle c = false) (w : World) : Calls Try.prog 18 #[.agg #[.int .i64 c.fl, .int .i64 c.tg, .int .i64 c.ti, .int .i64 c.d.ph, .int .i64 c.d.le, .int .i64 c.d.ru, .bool c.d.he, .bool c.fa]] w fun e w' => e = .returned (.bool false) ∧ Below w.heap.size w w' := by
  have := idle_any c w
  rwa [h] at this
theorem idle_no {c : Cr} (h : c.d.ph ≠ 0) : CM.idle c = false := by unfold CM.idle; simp [h]

set_option maxRecDepth 100000 in
set_option maxHeartbeats 8000000 in
theorem serves_of (s : St) (f t : Int) (w : World) :
    Calls Try.prog 6 #[.agg (sv s).toArray, .int .i64 f, .int .i64 t] w fun e w' => e = .returned (.bool true) ∧ Below w.heap.size w w' := by
  have HB0 : Hid (Below w.heap.size w (w.alloc (.cells (sv s).toArray 23))) := Hid.intro' ((Below.refl _ w).alloc (Nat.le_refl _) _)
  have HN0 := Hid.intro' (SB.new w s)
  go_enter Try.func6, Try.ntmps6
  go_wp2_with fail
  obtain ⟨B, hB⟩ : ∃ B, w.heap.size = B := ⟨_, rfl⟩
  rw [show Value.pointer (some ⟨w.heap.size, 0, none⟩) = Value.pointer (some ⟨B, 0, none⟩) by rw [hB]]
  rw [hB] at HN0
  clear hB
  refine (cspeaks_any _).mono ?_
  rintro e W1 ⟨rfl, hb⟩
  have HS1 := Hid.intro' (SB.below' HN0.out hb)
  have HB1 := Hid.intro' (below_class HB0.out hb)
  clear hb HN0 HB0
  by_cases hr : SM.Rt s
  · go_wp2_with (refine wpList_load23 rfl _ rfl B s rfl HS1.out ?_)
    refine (rright_t s hr _).mono ?_
    rintro e W2 ⟨rfl, hb⟩
    have HS2 := Hid.intro' (SB.below' HS1.out hb)
    have HB2 := Hid.intro' (below_class HB1.out hb)
    clear hb HS1 HB1
    have c0 : W2.cell? ⟨B, 0, none⟩ = some (.int .i64 s.fl) := HS2.out.cell 0
    have c2 : W2.cell? ⟨B, 2, none⟩ = some (.int .i64 s.sta) := HS2.out.cell 2
    have c3 : W2.cell? ⟨B, 3, none⟩ = some (.int .i64 s.ste) := HS2.out.cell 3
    have c4 : W2.cell? ⟨B, 4, none⟩ = some (.int .i64 s.sto) := HS2.out.cell 4
    have c5 : W2.cell? ⟨B, 5, none⟩ = some (.int .i64 s.opn) := HS2.out.cell 5
    have c6 : W2.cell? ⟨B, 6, none⟩ = some (.int .i64 s.wai) := HS2.out.cell 6
    have c7 : W2.cell? ⟨B, 7, none⟩ = some (.int .i64 s.clo) := HS2.out.cell 7
    have b1 := hr.opn1; have b2 := hr.opn2; have b3 := hr.wai1; have b4 := hr.wai2; have b5 := hr.clo1; have b6 := hr.clo2; have b7 := hr.sta1; have b8 := hr.sta2; have b9 := hr.sto1; have b10 := hr.sto2
    by_cases hout : f < 0 ∨ s.fl ≤ f ∨ t < 0 ∨ s.fl ≤ t ∨ 50 < s.ste ∨ 300 < s.opn + s.wai + s.clo + s.sta + s.sto
    · have HO := Hid.intro' hout
      clear hout hr
      go_wp2
      all_goals first
        | (clear c0 c2 c3 c4 c5 c6 c7; go_ret; exact ⟨rfl, HB2.out⟩)
        | (exfalso; have := HO.out; (try simp only [beq_eq_false_iff_ne] at *); omega)
    · have f1 : 0 ≤ f := by omega
      have f2 : f < s.fl := by omega
      have t1 : 0 ≤ t := by omega
      have t2 : t < s.fl := by omega
      have g1 : s.ste ≤ 50 := by omega
      have g2 : s.opn + s.wai + s.clo + s.sta + s.sto ≤ 300 := by omega
      have HR := Hid.intro' hr
      clear hout hr
      go_wp2_with fail
      clear c0 c2 c3 c4 c5 c6 c7
      refine (at_lit f _).mono ?_
      rintro e W3 ⟨rfl, hb⟩
      have HS3 := Hid.intro' (HS2.out.below' hb)
      have HB3 := Hid.intro' (below_class HB2.out hb)
      clear hb HS2 HB2
      have hBD : B < W3.heap.size := HS3.out.lt
      have hDw : w.heap.size ≤ W3.heap.size := HB3.out.size
      have HS4 := Hid.intro' (HS3.out.alloc (.cells #[.int .i64 (CM.atF f).fl, .int .i64 (CM.atF f).tg, .int .i64 (CM.atF f).ti, .int .i64 (CM.atF f).d.ph, .int .i64 (CM.atF f).d.le, .int .i64 (CM.atF f).d.ru, .bool (CM.atF f).d.he, .bool (CM.atF f).fa] 31))
      have HB4 := Hid.intro' (HB3.out.alloc HB3.out.size (.cells #[.int .i64 (CM.atF f).fl, .int .i64 (CM.atF f).tg, .int .i64 (CM.atF f).ti, .int .i64 (CM.atF f).d.ph, .int .i64 (CM.atF f).d.le, .int .i64 (CM.atF f).d.ru, .bool (CM.atF f).d.he, .bool (CM.atF f).fa] 31))
      have HD4 := Hid.intro' (CB.new W3 (CM.atF f))
      clear HS3 HB3
      simp only [CM.atF, DM.z] at HS4 HB4 HD4
      go_wp2
      generalize W3.alloc _ = W4 at HS4 HB4 HD4 ⊢
      generalize W3.heap.size = D at HD4 hBD hDw ⊢
      go_loopw [8, 9] (fun i j wr => ∃ (n op : Int) (c : Cr), i = .int .i64 n ∧ j = .int .i64 op ∧ CM.Sv s f t n op c ∧ SB wr B s ∧ CB wr D c ∧ Below w.heap.size w wr) (fun i _ _ => (5000 - intOf i).toNat)
      case atStart => exact ⟨0, -1, CM.atF f, rfl, rfl, CM.sv_start s f t, HS4.out, HD4.out, HB4.out⟩
      case round =>
        obtain ⟨n, op, c, rfl, rfl, hv, hs, hd, hb⟩ := hrel
        clear HS4 HB4 HD4
        have hbd := CM.sv_bd HR.out hv
        have hA : CM.ah s f t ≤ 3451 := by
          have hd0 := SM.dist_bd HR.out f1 t1 f2 t2
          unfold CM.ah SM.trav
          split
          · omega
          · split
            · omega
            · have m := SM.mul_bd (a := s.ste) (b := SM.dist f t) (A := 50) (B := 63) (by have := HR.out.ste1; omega) g1 hd0.1 hd0.2
              omega
        have hn1 : 0 ≤ n := hbd.1
        have hn2 : n < 5000 := by omega
        have hRc := CM.sv_right HR.out f1 f2 t1 t2 hv
        have HS := Hid.intro' hs
        have HB := Hid.intro' hb
        have HD := Hid.intro' hd
        have a0 := hd.c0; have a2 := hd.c2
        have hcases := CM.sv_step HR.out t1 t2 f1 f2 hv
        clear hs hb hd hv hA hbd
        rcases hcases with ⟨k1, rfl, y, hy, hp, hv'⟩ | ⟨k1, k2, rfl, y, hy, hp, hv'⟩ | ⟨k1, k2, rfl, y, hy, hp, e1, e2, hv'⟩ | ⟨k1, k2, ho, y, hy, hp, hv'⟩ | ⟨k1, k2, ho, hy, hop, hn⟩
        · have q1 : (c.fl == t) = false := by simpa using k1
          clear k1
          have HY := Hid.intro' hy
          clear hy
          have HSa := Hid.intro' (HS.out.alloc (.cells #[.bool false, .int .i64 t] 35))
          have HDa := Hid.intro' (HD.out.alloc (.cells #[.bool false, .int .i64 t] 35))
          have HMa := Hid.intro' (MB.new' wr false t (n := wr.heap.size) rfl)
          have HBa := Hid.intro' (HB.out.alloc HB.out.size (.cells #[.bool false, .int .i64 t] 35))
          go_wp2_with (first | (refine wpList_load23 rfl _ rfl B s rfl HSa.out ?_) | (refine wpList_loadC rfl _ rfl D rfl HDa.out ?_) | (refine wpList_loadMB rfl _ rfl wr.heap.size rfl HMa.out ?_))
          clear a0 a2
          refine (cstep_to hRc HY.out _).mono ?_
          rintro e W5 ⟨rfl, hb⟩
          have HS5 := Hid.intro' (HSa.out.below' hb)
          have HD5 := Hid.intro' (HDa.out.below' hb)
          have HB5 := Hid.intro' (below_class HBa.out hb)
          clear hb HS HD HB HSa HDa HMa HBa
          go_wp2_with (refine wpList_storeC (c' := y) rfl _ _ rfl D rfl rfl HD5.out ?_)
          intro W6 hu hc
          have HS6 := Hid.intro' (hu.sb HS5.out (by omega))
          have HB6 := Hid.intro' (hu.below HB5.out hDw)
          have HD6 := Hid.intro' hc
          have a3 := hc.c3
          clear hu hc HS5 HB5 HD5
          have q3 : (y.d.ph == 2) = false := by simpa using hp
          go_wp2
          go_roundw
          case rel => exact ⟨n + 1, -1, y, by go_num, rfl, hv', HS6.out, HD6.out, HB6.out⟩
          case measure => simp [intOf]; omega
        · have q1 : (c.fl == t) = true := by simpa using k1
          have q2 : (c.ti == 0) = true := by simpa using k2
          clear k1 k2
          have HY := Hid.intro' hy
          clear hy
          have HSa := Hid.intro' (HS.out.alloc (.cells #[.bool true, .int .i64 t] 35))
          have HDa := Hid.intro' (HD.out.alloc (.cells #[.bool true, .int .i64 t] 35))
          have HMa := Hid.intro' (MB.new' wr true t (n := wr.heap.size) rfl)
          have HBa := Hid.intro' (HB.out.alloc HB.out.size (.cells #[.bool true, .int .i64 t] 35))
          go_wp2_with (first | (refine wpList_load23 rfl _ rfl B s rfl HSa.out ?_) | (refine wpList_loadC rfl _ rfl D rfl HDa.out ?_) | (refine wpList_loadMB rfl _ rfl wr.heap.size rfl HMa.out ?_))
          clear a0 a2
          refine (cstep_to hRc HY.out _).mono ?_
          rintro e W5 ⟨rfl, hb⟩
          have HS5 := Hid.intro' (HSa.out.below' hb)
          have HD5 := Hid.intro' (HDa.out.below' hb)
          have HB5 := Hid.intro' (below_class HBa.out hb)
          clear hb HS HD HB HSa HDa HMa HBa
          go_wp2_with (refine wpList_storeC (c' := y) rfl _ _ rfl D rfl rfl HD5.out ?_)
          intro W6 hu hc
          have HS6 := Hid.intro' (hu.sb HS5.out (by omega))
          have HB6 := Hid.intro' (hu.below HB5.out hDw)
          have HD6 := Hid.intro' hc
          have a3 := hc.c3
          clear hu hc HS5 HB5 HD5
          have q3 : (y.d.ph == 2) = false := by simpa using hp
          go_wp2
          go_roundw
          case rel => exact ⟨n + 1, -1, y, by go_num, rfl, hv', HS6.out, HD6.out, HB6.out⟩
          case measure => simp [intOf]; omega
        · have q1 : (c.fl == t) = true := by simpa using k1
          have q2 : (c.ti == 0) = true := by simpa using k2
          have HP := Hid.intro' hp
          have q4 : (y.fl != t) = false := by simpa using e1
          have q5 : (y.ti != 0) = false := by simpa using e2
          clear k1 k2 hp e1 e2
          have HY := Hid.intro' hy
          clear hy
          have HSa := Hid.intro' (HS.out.alloc (.cells #[.bool true, .int .i64 t] 35))
          have HDa := Hid.intro' (HD.out.alloc (.cells #[.bool true, .int .i64 t] 35))
          have HMa := Hid.intro' (MB.new' wr true t (n := wr.heap.size) rfl)
          have HBa := Hid.intro' (HB.out.alloc HB.out.size (.cells #[.bool true, .int .i64 t] 35))
          go_wp2_with (first | (refine wpList_load23 rfl _ rfl B s rfl HSa.out ?_) | (refine wpList_loadC rfl _ rfl D rfl HDa.out ?_) | (refine wpList_loadMB rfl _ rfl wr.heap.size rfl HMa.out ?_))
          clear a0 a2
          refine (cstep_to hRc HY.out _).mono ?_
          rintro e W5 ⟨rfl, hb⟩
          have HS5 := Hid.intro' (HSa.out.below' hb)
          have HD5 := Hid.intro' (HDa.out.below' hb)
          have HB5 := Hid.intro' (below_class HBa.out hb)
          clear hb HS HD HB HSa HDa HMa HBa
          go_wp2_with (refine wpList_storeC (c' := y) rfl _ _ rfl D rfl rfl HD5.out ?_)
          intro W6 hu hc
          have HS6 := Hid.intro' (hu.sb HS5.out (by omega))
          have HB6 := Hid.intro' (hu.below HB5.out hDw)
          have HD6 := Hid.intro' hc
          have a3 := hc.c3
          clear hu hc HS5 HB5 HD5
          have q3 : (y.d.ph == 2) = true := by simpa using HP.out
          have a0 := HD6.out.c0; have a2 := HD6.out.c2
          go_wp2_with (first | (refine wpList_loadCg rfl _ rfl D rfl HD6.out ?_) | (refine wpList_loadC rfl _ rfl D rfl HD6.out ?_))
          clear a0 a2 a3 q4 q5
          refine (idle_f y (idle_no (by rw [HP.out]; decide)) _).mono ?_
          rintro e W7 ⟨rfl, hb⟩
          have HS7 := Hid.intro' (HS6.out.below' hb)
          have HD7 := Hid.intro' (HD6.out.below' hb)
          have HB7 := Hid.intro' (below_class HB6.out hb)
          clear hb HS6 HD6 HB6
          go_wp2
          go_roundw
          case rel => exact ⟨n + 1, n, y, by go_num, rfl, hv', HS7.out, HD7.out, HB7.out⟩
          case measure => simp [intOf]; omega
        · have q0 : decide (op < 0) = false := by simp; omega
          have q1 : (c.fl == t) = true := by simpa using k1
          have q2 : (c.ti == 0) = true := by simpa using k2
          clear k1 k2
          have HY := Hid.intro' hy
          clear hy
          have HSa := Hid.intro' (HS.out.alloc (.cells #[.bool false, .int .i64 t] 35))
          have HDa := Hid.intro' (HD.out.alloc (.cells #[.bool false, .int .i64 t] 35))
          have HMa := Hid.intro' (MB.new' wr false t (n := wr.heap.size) rfl)
          have HBa := Hid.intro' (HB.out.alloc HB.out.size (.cells #[.bool false, .int .i64 t] 35))
          go_wp2_with (first | (refine wpList_load23 rfl _ rfl B s rfl HSa.out ?_) | (refine wpList_loadC rfl _ rfl D rfl HDa.out ?_) | (refine wpList_loadMB rfl _ rfl wr.heap.size rfl HMa.out ?_))
          clear a0 a2
          refine (cstep_to hRc HY.out _).mono ?_
          rintro e W5 ⟨rfl, hb⟩
          have HS5 := Hid.intro' (HSa.out.below' hb)
          have HD5 := Hid.intro' (HDa.out.below' hb)
          have HB5 := Hid.intro' (below_class HBa.out hb)
          clear hb HS HD HB HSa HDa HMa HBa
          go_wp2_with (refine wpList_storeC (c' := y) rfl _ _ rfl D rfl rfl HD5.out ?_)
          intro W6 hu hc
          have HS6 := Hid.intro' (hu.sb HS5.out (by omega))
          have HB6 := Hid.intro' (hu.below HB5.out hDw)
          have HD6 := Hid.intro' hc
          have a3 := hc.c3
          clear hu hc HS5 HB5 HD5
          rcases Bool.eq_false_or_eq_true (y.d.ph == 2) with q3 | q3
          · go_wp2_with (first | (refine wpList_loadCg rfl _ rfl D rfl HD6.out ?_) | (refine wpList_loadC rfl _ rfl D rfl HD6.out ?_))
            clear a3
            refine (idle_f y (idle_no hp) _).mono ?_
            rintro e W7 ⟨rfl, hb⟩
            have HS7 := Hid.intro' (HS6.out.below' hb)
            have HD7 := Hid.intro' (HD6.out.below' hb)
            have HB7 := Hid.intro' (below_class HB6.out hb)
            clear hb HS6 HD6 HB6
            go_wp2
            go_roundw
            case rel => exact ⟨n + 1, op, y, by go_num, rfl, hv', HS7.out, HD7.out, HB7.out⟩
            case measure => simp [intOf]; omega
          · go_wp2_with (first | (refine wpList_loadCg rfl _ rfl D rfl HD6.out ?_) | (refine wpList_loadC rfl _ rfl D rfl HD6.out ?_))
            clear a3
            refine (idle_f y (idle_no hp) _).mono ?_
            rintro e W7 ⟨rfl, hb⟩
            have HS7 := Hid.intro' (HS6.out.below' hb)
            have HD7 := Hid.intro' (HD6.out.below' hb)
            have HB7 := Hid.intro' (below_class HB6.out hb)
            clear hb HS6 HD6 HB6
            go_wp2
            go_roundw
            case rel => exact ⟨n + 1, op, y, by go_num, rfl, hv', HS7.out, HD7.out, HB7.out⟩
            case measure => simp [intOf]; omega
        · have q0 : decide (op < 0) = false := by simp; omega
          have HOP := Hid.intro' hop
          have HN := Hid.intro' hn
          obtain ⟨y, hyE⟩ : ∃ y, CM.atF t = y := ⟨_, rfl⟩
          rw [hyE] at hy
          have hid : CM.idle y = true := by rw [← hyE]; rfl
          have q3 : (y.d.ph == 2) = false := by rw [← hyE]; rfl
          have HE := Hid.intro' hyE
          clear hop hn hyE
          have q1 : (c.fl == t) = true := by simpa using k1
          have q2 : (c.ti == 0) = true := by simpa using k2
          clear k1 k2
          have HY := Hid.intro' hy
          clear hy
          have HSa := Hid.intro' (HS.out.alloc (.cells #[.bool false, .int .i64 t] 35))
          have HDa := Hid.intro' (HD.out.alloc (.cells #[.bool false, .int .i64 t] 35))
          have HMa := Hid.intro' (MB.new' wr false t (n := wr.heap.size) rfl)
          have HBa := Hid.intro' (HB.out.alloc HB.out.size (.cells #[.bool false, .int .i64 t] 35))
          go_wp2_with (first | (refine wpList_load23 rfl _ rfl B s rfl HSa.out ?_) | (refine wpList_loadC rfl _ rfl D rfl HDa.out ?_) | (refine wpList_loadMB rfl _ rfl wr.heap.size rfl HMa.out ?_))
          clear a0 a2
          refine (cstep_to hRc HY.out _).mono ?_
          rintro e W5 ⟨rfl, hb⟩
          have HS5 := Hid.intro' (HSa.out.below' hb)
          have HD5 := Hid.intro' (HDa.out.below' hb)
          have HB5 := Hid.intro' (below_class HBa.out hb)
          clear hb HS HD HB HSa HDa HMa HBa
          go_wp2_with (refine wpList_storeC (c' := y) rfl _ _ rfl D rfl rfl HD5.out ?_)
          intro W6 hu hc
          have HS6 := Hid.intro' (hu.sb HS5.out (by omega))
          have HB6 := Hid.intro' (hu.below HB5.out hDw)
          have HD6 := Hid.intro' hc
          have a3 := hc.c3
          clear hu hc HS5 HB5 HD5
          go_wp2_with (first | (refine wpList_loadCg rfl _ rfl D rfl HD6.out ?_) | (refine wpList_loadC rfl _ rfl D rfl HD6.out ?_))
          clear a3 q1 q2 q3
          refine (idle_t y hid _).mono ?_
          rintro e W7 ⟨rfl, hb⟩
          have HS7 := Hid.intro' (HS6.out.below' hb)
          have HD7 := Hid.intro' (HD6.out.below' hb)
          have HB7 := Hid.intro' (below_class HB6.out hb)
          clear hb HS6 HD6 HB6 hid q0
          go_wp2_with (refine wpList_load23 rfl _ rfl B s rfl HS7.out ?_)
          have at_y : ∀ w', Calls Try.prog 20 #[.int .i64 t] w' fun e w2 => e = .returned (.agg #[.int .i64 y.fl, .int .i64 y.tg, .int .i64 y.ti, .int .i64 y.d.ph, .int .i64 y.d.le, .int .i64 y.d.ru, .bool y.d.he, .bool y.fa]) ∧ Below w'.heap.size w' w2 := fun w' => by rw [← HE.out]; exact at_any t w'
          have hlast := CM.sv_end HR.out f1 f2 t1 t2
          have c1 := rtravel_any s HR.out f t W7
          by_cases hft : f = t
          · have hT : SM.trav s f t = 0 := SM.trav_out (by omega)
            rw [hT] at c1
            refine c1.mono ?_
            clear c1
            rintro e W8 ⟨rfl, hb⟩
            have HS8 := Hid.intro' (HS7.out.below' hb)
            have HD8 := Hid.intro' (HD7.out.below' hb)
            have HB8 := Hid.intro' (below_class HB7.out hb)
            clear hb HS7 HD7 HB7
            have hop := HOP.out
            have hn := HN.out
            have e0 : CM.ah s f t = 0 := by unfold CM.ah; rw [if_pos hft]
            rw [e0] at hop hn hlast
            have q7 : (op == s.opn) = true := by simp; omega
            have q8 : decide (n < SM.ser s 0) = true := by simp; omega
            have w1 : IntKind.i64.wrap (IntKind.i64.wrap 0 + s.opn) = s.opn := by
              rw [IntWalk.i64_in 0 ⟨by omega, by omega⟩, Int.zero_add]
              exact IntWalk.i64_in _ ⟨by omega, by omega⟩
            clear hop hn e0 hlast hft hT
            go_wp2_with fail
            have hs : ∀ w', Below W8.heap.size W8 w' → SB w' B s := fun w' h' => HS8.out.below' h'
            have hx : ∀ w', Below W8.heap.size W8 w' → CB w' D y := fun w' h' => HD8.out.below' h'
            have q5 : ∀ w', Below W8.heap.size W8 w' → w'.cell? ⟨B, 5, none⟩ = some (.int .i64 s.opn) := fun w' h' => (HS8.out.below' h').cell 5
            have hq := eqC y
            refine wp_region_quiet (C := fun w' => Below W8.heap.size W8 w') (by kernel_rfl) (by kernel_rfl) ((Below.refl _ W8).drew) ?_
            simp only []
            unfold wpQuiet
            generalize hK : wpQuiet Try.prog _ _ _ _ = K
            go_simp
            refine ⟨_, fun _ _ => rfl, ?_⟩
            subst hK
            unfold wpQuiet
            generalize hK : wpQuiet Try.prog _ _ _ _ = K
            go_simp
            refine ⟨_, fun _ _ => rfl, ?_⟩
            subst hK
            unfold wpQuiet
            generalize hK : wpQuiet Try.prog _ _ _ _ = K
            go_simp
            refine ⟨_, fun _ _ => rfl, ?_⟩
            subst hK
            unfold wpQuiet
            generalize hK : wpQuiet Try.prog _ _ _ _ = K
            go_simp
            refine ⟨_, fun _ _ => rfl, ?_⟩
            subst hK
            unfold wpQuiet
            generalize hK : wpQuiet Try.prog _ _ _ _ = K
            go_simp
            refine ⟨_, fun _ _ => rfl, ?_⟩
            subst hK
            unfold wpQuiet
            generalize hK : wpQuiet Try.prog _ _ _ _ = K
            rw [if_pos (by go_simp)]
            refine quiet_load3 _ _ _ rfl rfl q5 ?_
            go_simp
            subst hK
            unfold wpQuiet
            generalize hK : wpQuiet Try.prog _ _ _ _ = K
            go_simp
            refine ⟨_, fun _ _ => rfl, ?_⟩
            subst hK
            unfold wpQuiet
            generalize hK : wpQuiet Try.prog _ _ _ _ = K
            go_simp
            refine ⟨_, fun _ _ => rfl, ?_⟩
            subst hK
            unfold wpQuiet
            generalize hK : wpQuiet Try.prog _ _ _ _ = K
            go_simp
            refine ⟨_, fun _ _ => rfl, ?_⟩
            subst hK
            unfold wpQuiet
            generalize hK : wpQuiet Try.prog _ _ _ _ = K
            go_simp
            refine ⟨_, fun _ _ => rfl, ?_⟩
            subst hK
            unfold wpQuiet
            generalize hK : wpQuiet Try.prog _ _ _ _ = K
            rw [if_pos (by go_simp)]
            refine quiet_load23 _ B s rfl rfl hs ?_
            go_simp
            subst hK
            unfold wpQuiet
            generalize hK : wpQuiet Try.prog _ _ _ _ = K
            go_simp
            refine ⟨_, fun w' hw => (rservice_any s HR.out 0 w').mono fun e w'' hh => ⟨hh.1, below_class hw hh.2⟩, ?_⟩
            subst hK
            unfold wpQuiet
            generalize hK : wpQuiet Try.prog _ _ _ _ = K
            go_simp
            refine ⟨_, fun _ _ => rfl, ?_⟩
            subst hK
            unfold wpQuiet
            generalize hK : wpQuiet Try.prog _ _ _ _ = K
            go_simp
            refine ⟨_, fun _ _ => rfl, ?_⟩
            subst hK
            unfold wpQuiet
            generalize hK : wpQuiet Try.prog _ _ _ _ = K
            go_simp
            refine ⟨_, fun _ _ => rfl, ?_⟩
            subst hK
            unfold wpQuiet
            generalize hK : wpQuiet Try.prog _ _ _ _ = K
            rw [if_pos (by go_simp)]
            refine quiet_loadC _ D rfl rfl hx ?_
            go_simp
            subst hK
            unfold wpQuiet
            generalize hK : wpQuiet Try.prog _ _ _ _ = K
            go_simp
            refine ⟨_, fun _ _ => rfl, ?_⟩
            subst hK
            unfold wpQuiet
            generalize hK : wpQuiet Try.prog _ _ _ _ = K
            go_simp
            refine ⟨_, fun w' hw => (at_y w').mono fun e w'' hh => ⟨hh.1, below_class hw hh.2⟩, ?_⟩
            subst hK
            unfold wpQuiet
            generalize hK : wpQuiet Try.prog _ _ _ _ = K
            go_simp
            refine ⟨_, fun _ _ => rfl, ?_⟩
            subst hK
            unfold wpQuiet
            generalize hK : wpQuiet Try.prog _ _ _ _ = K
            go_simp
            refine ⟨_, fun _ _ => rfl, ?_⟩
            subst hK
            unfold wpQuiet
            generalize hK : wpQuiet Try.prog _ _ _ _ = K
            go_simp
            refine ⟨_, fun _ _ => rfl, ?_⟩
            subst hK
            refine wpQuiet_nil ?_
            intro W9 hb9
            have HB9 := Hid.intro' (below_class HB8.out hb9)
            clear hb9 hs hx q5 hq
            go_wp2
            go_ret
            exact ⟨rfl, HB9.out⟩
          · obtain ⟨T, hT⟩ : ∃ T, SM.trav s f t = T := ⟨_, rfl⟩
            have T1 := CM.trav_ge HR.out f1 t1 f2 t2 hft
            have T2 := (SM.trav_bd HR.out f t).2
            rw [hT] at c1 T1 T2
            refine c1.mono ?_
            clear c1
            rintro e W8 ⟨rfl, hb⟩
            have HS8 := Hid.intro' (HS7.out.below' hb)
            have HD8 := Hid.intro' (HD7.out.below' hb)
            have HB8 := Hid.intro' (below_class HB7.out hb)
            clear hb HS7 HD7 HB7
            have HFT := Hid.intro' hft
            have HT := Hid.intro' hT
            have qT : (T == 0) = false := by simp; omega
            have hop := HOP.out
            have hn := HN.out
            have e0 : CM.ah s f t = T + 1 := by unfold CM.ah; rw [if_neg hft, hT]
            rw [e0] at hop hn hlast
            have q7 : (op == T + 1 + s.opn) = true := by simp; omega
            have q8 : decide (n < SM.ser s 0) = true := by simp; omega
            have w1 : IntKind.i64.wrap (T + 1) = T + 1 := IntWalk.i64_in _ ⟨by omega, by omega⟩
            have w2 : IntKind.i64.wrap (T + 1 + s.opn) = T + 1 + s.opn := IntWalk.i64_in _ ⟨by omega, by omega⟩
            clear hop hn e0 hlast hft hT
            go_wp2_with fail
            have hs : ∀ w', Below W8.heap.size W8 w' → SB w' B s := fun w' h' => HS8.out.below' h'
            have hx : ∀ w', Below W8.heap.size W8 w' → CB w' D y := fun w' h' => HD8.out.below' h'
            have q5 : ∀ w', Below W8.heap.size W8 w' → w'.cell? ⟨B, 5, none⟩ = some (.int .i64 s.opn) := fun w' h' => (HS8.out.below' h').cell 5
            have hq := eqC y
            refine wp_region_quiet (C := fun w' => Below W8.heap.size W8 w') (by kernel_rfl) (by kernel_rfl) ((Below.refl _ W8).drew) ?_
            simp only []
            unfold wpQuiet
            generalize hK : wpQuiet Try.prog _ _ _ _ = K
            go_simp
            refine ⟨_, fun _ _ => rfl, ?_⟩
            subst hK
            unfold wpQuiet
            generalize hK : wpQuiet Try.prog _ _ _ _ = K
            go_simp
            refine ⟨_, fun _ _ => rfl, ?_⟩
            subst hK
            unfold wpQuiet
            generalize hK : wpQuiet Try.prog _ _ _ _ = K
            go_simp
            refine ⟨_, fun _ _ => rfl, ?_⟩
            subst hK
            unfold wpQuiet
            generalize hK : wpQuiet Try.prog _ _ _ _ = K
            go_simp
            refine ⟨_, fun _ _ => rfl, ?_⟩
            subst hK
            unfold wpQuiet
            generalize hK : wpQuiet Try.prog _ _ _ _ = K
            go_simp
            refine ⟨_, fun _ _ => rfl, ?_⟩
            subst hK
            unfold wpQuiet
            generalize hK : wpQuiet Try.prog _ _ _ _ = K
            rw [if_pos (by go_simp)]
            refine quiet_load3 _ _ _ rfl rfl q5 ?_
            go_simp
            subst hK
            unfold wpQuiet
            generalize hK : wpQuiet Try.prog _ _ _ _ = K
            go_simp
            refine ⟨_, fun _ _ => rfl, ?_⟩
            subst hK
            unfold wpQuiet
            generalize hK : wpQuiet Try.prog _ _ _ _ = K
            go_simp
            refine ⟨_, fun _ _ => rfl, ?_⟩
            subst hK
            unfold wpQuiet
            generalize hK : wpQuiet Try.prog _ _ _ _ = K
            go_simp
            refine ⟨_, fun _ _ => rfl, ?_⟩
            subst hK
            unfold wpQuiet
            generalize hK : wpQuiet Try.prog _ _ _ _ = K
            go_simp
            refine ⟨_, fun _ _ => rfl, ?_⟩
            subst hK
            unfold wpQuiet
            generalize hK : wpQuiet Try.prog _ _ _ _ = K
            rw [if_pos (by go_simp)]
            refine quiet_load23 _ B s rfl rfl hs ?_
            go_simp
            subst hK
            unfold wpQuiet
            generalize hK : wpQuiet Try.prog _ _ _ _ = K
            go_simp
            refine ⟨_, fun w' hw => (rservice_any s HR.out 0 w').mono fun e w'' hh => ⟨hh.1, below_class hw hh.2⟩, ?_⟩
            subst hK
            unfold wpQuiet
            generalize hK : wpQuiet Try.prog _ _ _ _ = K
            go_simp
            refine ⟨_, fun _ _ => rfl, ?_⟩
            subst hK
            unfold wpQuiet
            generalize hK : wpQuiet Try.prog _ _ _ _ = K
            go_simp
            refine ⟨_, fun _ _ => rfl, ?_⟩
            subst hK
            unfold wpQuiet
            generalize hK : wpQuiet Try.prog _ _ _ _ = K
            go_simp
            refine ⟨_, fun _ _ => rfl, ?_⟩
            subst hK
            unfold wpQuiet
            generalize hK : wpQuiet Try.prog _ _ _ _ = K
            rw [if_pos (by go_simp)]
            refine quiet_loadC _ D rfl rfl hx ?_
            go_simp
            subst hK
            unfold wpQuiet
            generalize hK : wpQuiet Try.prog _ _ _ _ = K
            go_simp
            refine ⟨_, fun _ _ => rfl, ?_⟩
            subst hK
            unfold wpQuiet
            generalize hK : wpQuiet Try.prog _ _ _ _ = K
            go_simp
            refine ⟨_, fun w' hw => (at_y w').mono fun e w'' hh => ⟨hh.1, below_class hw hh.2⟩, ?_⟩
            subst hK
            unfold wpQuiet
            generalize hK : wpQuiet Try.prog _ _ _ _ = K
            go_simp
            refine ⟨_, fun _ _ => rfl, ?_⟩
            subst hK
            unfold wpQuiet
            generalize hK : wpQuiet Try.prog _ _ _ _ = K
            go_simp
            refine ⟨_, fun _ _ => rfl, ?_⟩
            subst hK
            unfold wpQuiet
            generalize hK : wpQuiet Try.prog _ _ _ _ = K
            go_simp
            refine ⟨_, fun _ _ => rfl, ?_⟩
            subst hK
            refine wpQuiet_nil ?_
            intro W9 hb9
            have HB9 := Hid.intro' (below_class HB8.out hb9)
            clear hb9 hs hx q5 hq
            go_wp2
            go_ret
            exact ⟨rfl, HB9.out⟩
  · go_wp2_with (refine wpList_load23 rfl _ rfl B s rfl HS1.out ?_)
    refine (rright_f s hr _).mono ?_
    rintro e W2 ⟨rfl, hb⟩
    have HB2 := Hid.intro' (below_class HB1.out hb)
    clear hb HS1 HB1
    go_wp2
    go_ret
    exact ⟨rfl, HB2.out⟩

end Go.Proofs.Ytjcccdlhdffbdac
