/- The walk of the law CarRides. -/
import Derived.Test.YtjcccdlhdffbdacCarK
namespace Go.Proofs.Ytjcccdlhdffbdac
open Go.RowKit

/-- a car on its way, with so many ticks left; behind them it stands -/
def onway (f t j : Int) : Cr := if j = 0 then CM.atF t else ⟨f, t, j, DM.z, false⟩
theorem cstep_to {s : St} {c x : Cr} (h : CM.Rc s c) {o : Bool} {g : Int} {b : Bool} (hx : CM.step s c o g b = x) (w : World) :
    Calls Try.prog 16 #[.agg (sv s).toArray, .agg #[.int .i64 c.fl, .int .i64 c.tg, .int .i64 c.ti, .int .i64 c.d.ph, .int .i64 c.d.le, .int .i64 c.d.ru, .bool c.d.he, .bool c.fa], .agg #[.bool o, .int .i64 g], .bool b] w fun e w' => e = .returned (.agg #[.int .i64 x.fl, .int .i64 x.tg, .int .i64 x.ti, .int .i64 x.d.ph, .int .i64 x.d.le, .int .i64 x.d.ru, .bool x.d.he, .bool x.fa]) ∧ Below w.heap.size w w' := by
  subst hx
  exact cstep_any s c h o g b w
theorem goes {s : St} {f t : Int} (t1 : 0 ≤ t) (t2 : t < s.fl) (hne : f ≠ t) (b : Bool) : CM.step s (CM.atF f) false t b = ⟨f, t, SM.trav s f t, DM.z, false⟩ := by
  unfold CM.step
  rw [if_neg (by simp [CM.atF]), if_neg (by simp [CM.atF, DM.z]), if_neg (by simp [CM.atF]), if_neg (by simp), if_pos ⟨fun e => hne (by simpa [CM.atF] using e.symm), has_iff.2 ⟨t1, t2⟩⟩]
  rfl
theorem goes_call {s : St} (R : SM.Rt s) {f t : Int} (f1 : 0 ≤ f) (f2 : f < s.fl) (t1 : 0 ≤ t) (t2 : t < s.fl) (hne : f ≠ t) (w : World) :
    Calls Try.prog 16 #[.agg (sv s).toArray, .agg #[.int .i64 f, .int .i64 f, .int .i64 0, .int .i64 0, .int .i64 0, .int .i64 0, .bool false, .bool false], .agg #[.bool false, .int .i64 t], .bool true] w fun e w' => e = .returned (.agg #[.int .i64 f, .int .i64 t, .int .i64 (SM.trav s f t), .int .i64 0, .int .i64 0, .int .i64 0, .bool false, .bool false]) ∧ Below w.heap.size w w' :=
  cstep_to (CM.rc_at R f1 f2) (goes t1 t2 hne true) w
theorem rides {s : St} {f t j : Int} (hj : j ≠ 0) (o : Bool) (g : Int) (b : Bool) : CM.step s ⟨f, t, j, DM.z, false⟩ o g b = onway f t (j - 1) := by
  unfold CM.step
  rw [if_pos hj]
  unfold CM.ride onway
  by_cases h1 : j = 1
  · subst h1; rfl
  · rw [if_neg h1, if_neg (by omega)]
theorem rc_way {s : St} (R : SM.Rt s) {f t j : Int} (f1 : 0 ≤ f) (f2 : f < s.fl) (t1 : 0 ≤ t) (t2 : t < s.fl) (hne : f ≠ t) (h1 : 1 ≤ j) (h2 : j ≤ SM.trav s f t) : CM.Rc s ⟨f, t, j, DM.z, false⟩ :=
  ⟨R, .inl rfl, f1, f2, t1, t2, fun h => absurd h (by show ¬ j = 0; omega), fun _ => ⟨fun e => hne e.symm, h1, h2, rfl⟩⟩

set_option maxRecDepth 100000 in
set_option maxHeartbeats 4000000 in
theorem rides_of (s : St) (f t : Int) (w : World) :
    Calls Try.prog 8 #[.agg (sv s).toArray, .int .i64 f, .int .i64 t] w fun e w' => e = .returned (.bool true) ∧ Below w.heap.size w w' := by
  have HB0 : Hid (Below w.heap.size w (w.alloc (.cells (sv s).toArray 23))) := Hid.intro' ((Below.refl _ w).alloc (Nat.le_refl _) _)
  have HN0 := Hid.intro' (SB.new w s)
  go_enter Try.func8, Try.ntmps8
  go_wp2_with fail
  obtain ⟨B, hB⟩ : ∃ B, w.heap.size = B := ⟨_, rfl⟩
  rw [show Value.pointer (some ⟨w.heap.size, 0, none⟩) = Value.pointer (some ⟨B, 0, none⟩) by rw [hB]]
  rw [hB] at HN0
  clear hB
  refine (cspeaks_any _).mono ?_
  rintro e W1 ⟨rfl, hb⟩
  have HS1 := Hid.intro' (SB.below' HN0.out hb)
  have HB1 := Hid.intro' (below_class HB0.out hb)
  clear hb HN0 HB0
  by_cases hr : SM.Rt s
  · go_wp2_with (refine wpList_load23 rfl _ rfl B s rfl HS1.out ?_)
    refine (rright_t s hr _).mono ?_
    rintro e W2 ⟨rfl, hb⟩
    have HS2 := Hid.intro' (SB.below' HS1.out hb)
    have HB2 := Hid.intro' (below_class HB1.out hb)
    clear hb HS1 HB1
    have c0 : W2.cell? ⟨B, 0, none⟩ = some (.int .i64 s.fl) := HS2.out.cell 0
    have c3 : W2.cell? ⟨B, 3, none⟩ = some (.int .i64 s.ste) := HS2.out.cell 3
    by_cases hout : f < 0 ∨ s.fl ≤ f ∨ t < 0 ∨ s.fl ≤ t ∨ f = t ∨ 30 < s.ste
    · have HO := Hid.intro' hout
      clear hout hr
      go_wp2
      all_goals first
        | (clear c0 c3; go_ret; exact ⟨rfl, HB2.out⟩)
        | (exfalso; have := HO.out; (try simp only [beq_eq_false_iff_ne] at *); omega)
    · have f1 : 0 ≤ f := by omega
      have f2 : f < s.fl := by omega
      have t1 : 0 ≤ t := by omega
      have t2 : t < s.fl := by omega
      have hne : f ≠ t := by omega
      have hq : (f == t) = false := by simpa using hne
      have hst : s.ste ≤ 30 := by omega
      have HNE := Hid.intro' hne
      have HR := Hid.intro' hr
      clear hout hne
      have T1 := CM.trav_ge hr f1 t1 f2 t2 HNE.out
      have T2 := (SM.trav_bd hr f t).2
      go_wp2_with fail
      clear c0 c3 hq
      have hs : ∀ w', Below W2.drew.heap.size W2.drew w' → SB w' B s := fun w' h' => (SB.drew HS2.out).below' h'
      refine wp_region_new1 6 7 (.cells #[.int .i64 (CM.atF 0).fl, .int .i64 (CM.atF 0).tg, .int .i64 (CM.atF 0).ti, .int .i64 (CM.atF 0).d.ph, .int .i64 (CM.atF 0).d.le, .int .i64 (CM.atF 0).d.ru, .bool (CM.atF 0).d.he, .bool (CM.atF 0).fa] 31) (by kernel_rfl) (by kernel_rfl) rfl ⟨_, rfl, rfl, fun _ => rfl, fun a w => by go_simp; rfl⟩ ?_
      simp only [List.take_succ_cons, List.take_zero, List.drop_succ_cons, List.drop_zero]
      unfold wpCalm
      generalize hK : wpCalm Try.prog _ _ _ _ = K
      rw [if_pos (by go_simp)]
      refine calm_load23 _ B s rfl rfl hs ?_
      go_simp
      subst hK
      unfold wpCalm
      generalize hK : wpCalm Try.prog _ _ _ _ = K
      unfold Oper.calm
      go_simp
      refine ⟨_, fun _ _ => rfl, ?_⟩
      subst hK
      unfold wpCalm
      generalize hK : wpCalm Try.prog _ _ _ _ = K
      unfold Oper.calm
      go_simp
      refine ⟨_, fun w' hw => at_lit f w', ?_⟩
      subst hK
      unfold wpCalm
      generalize hK : wpCalm Try.prog _ _ _ _ = K
      unfold Oper.calm
      go_simp
      refine ⟨_, fun _ _ => rfl, ?_⟩
      subst hK
      unfold wpCalm
      generalize hK : wpCalm Try.prog _ _ _ _ = K
      unfold Oper.calm
      go_simp
      refine ⟨_, fun _ _ => rfl, ?_⟩
      subst hK
      unfold wpCalm
      generalize hK : wpCalm Try.prog _ _ _ _ = K
      unfold Oper.calm
      go_simp
      refine ⟨_, fun w' hw => goes_call HR.out f1 f2 t1 t2 HNE.out w', ?_⟩
      subst hK
      refine wpCalm_nil ?_
      intro D W3 hb hD hz
      have hBD : B < D := Nat.lt_of_lt_of_le HS2.out.lt hD
      have hDw : w.heap.size ≤ D := Nat.le_trans HB2.out.size hD
      have HB3 := Hid.intro' (below_class (HB2.out.drew) hb)
      have HS3 := Hid.intro' (hs W3 hb)
      have HD3 := Hid.intro' (zeroC hz)
      clear hb hz hs HS2 HB2 hD
      obtain ⟨T, hT⟩ : ∃ T, SM.trav s f t = T := ⟨_, rfl⟩
      have HT := Hid.intro' hT
      rw [hT] at T1 T2
      rw [hT]
      clear hT
      go_wp2_with (refine wpList_storeC (c' := ⟨f, t, T, DM.z, false⟩) rfl _ _ rfl D rfl rfl HD3.out ?_)
      intro W4 hu hc
      have HB4 := Hid.intro' (hu.below HB3.out hDw)
      have HS4 := Hid.intro' (hu.sb HS3.out (by omega))
      have HD4 := Hid.intro' hc
      clear hu hc HB3 HS3 HD3
      go_wp2_with (refine wpList_load23 rfl _ rfl B s rfl HS4.out ?_)
      have c1 := rtravel_any s HR.out f t W4
      rw [HT.out] at c1
      refine c1.mono ?_
      clear c1
      rintro e W5 ⟨rfl, hb⟩
      have HB5 := Hid.intro' (below_class HB4.out hb)
      have HS5 := Hid.intro' (HS4.out.below' hb)
      have HD5 := Hid.intro' (HD4.out.below' hb)
      clear hb HB4 HS4 HD4
      go_wp2
      go_loopw [9] (fun i wr => ∃ j : Int, 0 ≤ j ∧ j ≤ T ∧ i = .int .i64 j ∧ SB wr B s ∧ CB wr D (onway f t j) ∧ Below w.heap.size w wr) (fun i _ => (intOf i).toNat)
      case atStart => exact ⟨T, by omega, by omega, rfl, HS5.out, by unfold onway; rw [if_neg (by omega)]; exact HD5.out, HB5.out⟩
      case round =>
        obtain ⟨j, j1, j2, rfl, hs, hd, hb⟩ := hrel
        clear HS5 HD5 HB5
        have HS := Hid.intro' hs
        have HB := Hid.intro' hb
        by_cases hj : j = 0
        · subst hj
          have HD := Hid.intro' (show CB wr D (CM.atF t) from hd)
          clear hs hd hb
          go_wp2_with fail
          have hx : ∀ w', Below wr.heap.size wr w' → CB w' D (CM.atF t) := fun w' h' => HD.out.below' h'
          have hq := eqC (CM.atF t)
          simp only [CM.atF, DM.z] at hq hx
          refine wp_region_quiet (C := fun w' => Below wr.heap.size wr w') (by kernel_rfl) (by kernel_rfl) ((Below.refl _ wr).drew) ?_
          simp only []
          unfold wpQuiet
          generalize hK : wpQuiet Try.prog _ _ _ _ = K
          rw [if_pos (by go_simp)]
          refine quiet_loadC _ D rfl rfl hx ?_
          go_simp
          subst hK
          unfold wpQuiet
          generalize hK : wpQuiet Try.prog _ _ _ _ = K
          go_simp
          refine ⟨_, fun _ _ => rfl, ?_⟩
          subst hK
          unfold wpQuiet
          generalize hK : wpQuiet Try.prog _ _ _ _ = K
          go_simp
          refine ⟨_, fun w' hw => (at_lit t w').mono fun e w'' hh => ⟨hh.1, below_class hw hh.2⟩, ?_⟩
          subst hK
          unfold wpQuiet
          generalize hK : wpQuiet Try.prog _ _ _ _ = K
          go_simp
          refine ⟨_, fun _ _ => rfl, ?_⟩
          subst hK
          unfold wpQuiet
          generalize hK : wpQuiet Try.prog _ _ _ _ = K
          go_simp
          refine ⟨_, fun _ _ => rfl, ?_⟩
          subst hK
          refine wpQuiet_nil ?_
          intro W7 hb7
          have HB7 := Hid.intro' (below_class HB.out hb7)
          clear hb7 hx hq HD HS
          go_wp2
          go_ret
          exact ⟨rfl, HB7.out⟩
        · have HD := Hid.intro' (show CB wr D ⟨f, t, j, DM.z, false⟩ by unfold onway at hd; rw [if_neg hj] at hd; exact hd)
          have hj0 : 0 < j := by omega
          have hq := eqC ⟨f, t, j, DM.z, false⟩
          simp only [DM.z] at hq
          have HJ := Hid.intro' hj
          clear hs hd hb hj
          go_wp2_with (first | (refine wpList_load23 rfl _ rfl B s rfl HS.out ?_) | (refine wpList_loadC (c := ⟨f, t, j, ⟨0, 0, 0, false⟩, false⟩) rfl _ rfl D rfl HD.out ?_))
          clear hq
          refine (cstep_to (rc_way HR.out f1 f2 t1 t2 HNE.out (show 1 ≤ j by omega) (by rw [HT.out]; exact j2)) (rides HJ.out true f true) _).mono ?_
          rintro e W6 ⟨rfl, hb⟩
          have HB6 := Hid.intro' (below_class HB.out hb)
          have HS6 := Hid.intro' (HS.out.below' hb)
          have HD6 := Hid.intro' (HD.out.below' hb)
          clear hb HB HS HD
          go_wp2_with (refine wpList_storeC (c' := onway f t (j - 1)) rfl _ _ rfl D rfl rfl HD6.out ?_)
          intro W7 hu hc
          have HB7 := Hid.intro' (hu.below HB6.out hDw)
          have HS7 := Hid.intro' (hu.sb HS6.out (by omega))
          have HD7 := Hid.intro' hc
          clear hu hc HB6 HS6 HD6
          go_wp2
          go_roundw
          case rel => exact ⟨j - 1, by omega, by omega, by go_num, HS7.out, HD7.out, HB7.out⟩
          case measure => simp [intOf]; omega
  · go_wp2_with (refine wpList_load23 rfl _ rfl B s rfl HS1.out ?_)
    refine (rright_f s hr _).mono ?_
    rintro e W2 ⟨rfl, hb⟩
    have HB2 := Hid.intro' (below_class HB1.out hb)
    clear hb HS1 HB1
    go_wp2
    go_ret
    exact ⟨rfl, HB2.out⟩

end Go.Proofs.Ytjcccdlhdffbdac
