/- The walk of the law CarBusy. -/
import Derived.Test.YtjcccdlhdffbdacCarF
import Derived.Test.YtjcccdlhdffbdacCarK
namespace Go.Proofs.Ytjcccdlhdffbdac
open Go.RowKit

/-- the blocks: the site, the car, two commands -/
structure Bb (w0 W : World) (S : Nat) (s : St) (c : Cr) (o1 : Bool) (g1 : Int) (o2 : Bool) (g2 : Int) : Prop where
  bel : Below w0.heap.size w0 W
  sb : SB W S s
  cb : CB W (S + 1) c
  ab : MB W (S + 1 + 1) o1 g1
  bb : MB W (S + 1 + 1 + 1) o2 g2
section
variable {w0 W W' : World} {S : Nat} {s : St} {c : Cr} {o1 o2 : Bool} {g1 g2 : Int}
theorem Bb.new (w : World) (s : St) (c : Cr) (o1 : Bool) (g1 : Int) (o2 : Bool) (g2 : Int) :
    Bb w ((((w.alloc (.cells (sv s).toArray 23)).alloc (.cells #[.int .i64 c.fl, .int .i64 c.tg, .int .i64 c.ti, .int .i64 c.d.ph, .int .i64 c.d.le, .int .i64 c.d.ru, .bool c.d.he, .bool c.fa] 31)).alloc (.cells #[.bool o1, .int .i64 g1] 35)).alloc (.cells #[.bool o2, .int .i64 g2] 35)) w.heap.size s c o1 g1 o2 g2 :=
  ⟨((((Below.refl _ w).alloc (Nat.le_refl _) _).alloc (by simp) _).alloc (by simp; omega) _).alloc (by simp; omega) _, (((SB.new w s).alloc _).alloc _).alloc _, ((CB.new' _ c (by simp)).alloc _).alloc _, (MB.new' _ o1 g1 (by simp)).alloc _, MB.new' _ o2 g2 (by simp)⟩
theorem Bb.below (h : Bb w0 W S s c o1 g1 o2 g2) (hb : Below W.heap.size W W') : Bb w0 W' S s c o1 g1 o2 g2 :=
  ⟨below_class h.bel hb, h.sb.below' hb, h.cb.below' hb, h.ab.below' hb, h.bb.below' hb⟩
theorem Bb.keep {f : FuncId} {args : Array Value} {R : Ending → Prop} (h : Bb w0 W S s c o1 g1 o2 g2)
    (hc : Calls Try.prog f args W fun e w' => R e ∧ Below W.heap.size W w') : Calls Try.prog f args W fun e w' => R e ∧ Bb w0 w' S s c o1 g1 o2 g2 :=
  hc.mono fun _ _ hh => ⟨hh.1, h.below hh.2⟩
theorem Bb.upd {k : Nat} (h : Bb w0 W S s c o1 g1 o2 g2) (hu : Upd k W W') (hS : S + 1 + 1 + 1 < k) (h0 : w0.heap.size ≤ k) : Bb w0 W' S s c o1 g1 o2 g2 :=
  ⟨hu.below h.bel h0, hu.sb h.sb (by omega), hu.cb h.cb (by omega), hu.mb h.ab (by omega), hu.mb h.bb (by omega)⟩
theorem Bb.fault (h : Bb w0 W S s c o1 g1 o2 g2) (hS : w0.heap.size ≤ S) (f : Bool) : Bb w0 (W.setCell ⟨S + 1, 7, none⟩ (.bool f)) S s ⟨c.fl, c.tg, c.ti, c.d, f⟩ o1 g1 o2 g2 :=
  have hu := Upd.set h.cb 7 (.bool f)
  ⟨hu.below h.bel (by omega), hu.sb h.sb (by omega), h.cb.fault f, hu.mb h.ab (by omega), hu.mb h.bb (by omega)⟩
theorem Bb.drew (h : Bb w0 W S s c o1 g1 o2 g2) : Bb w0 W.drew S s c o1 g1 o2 g2 := ⟨h.bel.drew, h.sb, h.cb, h.ab, h.bb⟩
end
theorem idle_t (c : Cr) (h : CM.idle c = true) (w : World) : Calls Try.prog 18 #[.agg #[.int .i64 c.fl, .int .i64 c.tg, .int .i64 c.ti, .int .i64 c.d.ph, .int .i64 c.d.le, .int .i64 c.d.ru, .bool c.d.he, .bool c.fa]] w fun e w' => e = .returned (.bool true) ∧ Below w.heap.size w w' := by
  have := idle_any c w
  rwa [h] at this
theorem idle_f (c : Cr) (h : CM.idle c = false) (w : World) : Calls Try.prog 18 #[.agg #[.int .i64 c.fl, .int .i64 c.tg, .int .i64 c.ti, .int .i64 c.d.ph, .int .i64 c.d.le, .int .i64 c.d.ru, .bool c.d.he, .bool c.fa]] w fun e w' => e = .returned (.bool false) ∧ Below w.heap.size w w' := by
  have := idle_any c w
  rwa [h] at this
/-- a tick whose end is known -/
theorem cstep_to {s : St} {c x : Cr} (h : CM.Rc s c) {o : Bool} {g : Int} {b : Bool} (hx : CM.step s c o g b = x) (w : World) :
    Calls Try.prog 16 #[.agg (sv s).toArray, .agg #[.int .i64 c.fl, .int .i64 c.tg, .int .i64 c.ti, .int .i64 c.d.ph, .int .i64 c.d.le, .int .i64 c.d.ru, .bool c.d.he, .bool c.fa], .agg #[.bool o, .int .i64 g], .bool b] w fun e w' => e = .returned (.agg #[.int .i64 x.fl, .int .i64 x.tg, .int .i64 x.ti, .int .i64 x.d.ph, .int .i64 x.d.le, .int .i64 x.d.ru, .bool x.d.he, .bool x.fa]) ∧ Below w.heap.size w w' := by
  subst hx
  exact cstep_any s c h o g b w

set_option maxRecDepth 100000 in
set_option maxHeartbeats 4000000 in
theorem busy_of (s : St) (c : Cr) (o1 : Bool) (g1 : Int) (o2 : Bool) (g2 : Int) (b : Bool) (w : World) :
    Calls Try.prog 7 #[.agg (sv s).toArray, .agg #[.int .i64 c.fl, .int .i64 c.tg, .int .i64 c.ti, .int .i64 c.d.ph, .int .i64 c.d.le, .int .i64 c.d.ru, .bool c.d.he, .bool c.fa], .agg #[.bool o1, .int .i64 g1], .agg #[.bool o2, .int .i64 g2], .bool b] w fun e w' => e = .returned (.bool true) ∧ Below w.heap.size w w' := by
  have H0 := Hid.intro' (Bb.new w s c o1 g1 o2 g2)
  go_enter Try.func7, Try.ntmps7
  go_wp2_with fail
  refine (H0.out.keep (cspeaks_any _)).mono ?_
  rintro e W1 ⟨rfl, hk⟩
  have H1 := Hid.intro' hk
  clear hk H0
  go_wp2_with (first | (refine wpList_load23 rfl _ rfl w.heap.size s rfl H1.out.sb ?_) | (refine wpList_loadC rfl _ rfl (w.heap.size + 1) rfl H1.out.cb ?_))
  cases hr : crB s c
  · refine (H1.out.keep (rcright_f s c hr _)).mono ?_
    rintro e W2 ⟨rfl, hk⟩
    have HB2 := Hid.intro' hk.bel
    clear hk H1 hr
    go_wp2
    go_ret
    exact ⟨rfl, HB2.out⟩
  · have R : CM.Rc s c := (crB_iff s c).1 hr
    refine (H1.out.keep (rcright_t s c hr _)).mono ?_
    rintro e W2 ⟨rfl, hk⟩
    have H2 := Hid.intro' hk
    clear hk H1 hr
    go_wp2_with (refine wpList_loadC rfl _ rfl (w.heap.size + 1) rfl H2.out.cb ?_)
    cases hi : CM.idle c
    · obtain ⟨x, hx⟩ : ∃ x, CM.step s c o1 g1 b = x := ⟨_, rfl⟩
      have hx2 : CM.step s c o2 g2 b = x := by rw [← hx]; exact CM.busy hi _ _ _ _ _
      have hz := CM.busy_fault (s := s) hi (!c.fa) o2 g2 b
      rw [hx2] at hz
      obtain ⟨hz, hfa⟩ := hz
      have HX := Hid.intro' hx
      have HY := Hid.intro' hx2
      have HZ := Hid.intro' hz
      have HF := Hid.intro' hfa
      refine (H2.out.keep (idle_f c hi _)).mono ?_
      rintro e W3 ⟨rfl, hk⟩
      have H3 := Hid.intro' hk.drew
      clear hk H2 hi hx hx2 hz hfa
      go_wp2_with fail
      have hs : ∀ w', Below W3.drew.heap.size W3.drew w' → SB w' w.heap.size s := fun w' h' => H3.out.sb.below' h'
      have hc : ∀ w', Below W3.drew.heap.size W3.drew w' → CB w' (w.heap.size + 1) c := fun w' h' => H3.out.cb.below' h'
      have ha : ∀ w', Below W3.drew.heap.size W3.drew w' → MB w' (w.heap.size + 1 + 1) o1 g1 := fun w' h' => H3.out.ab.below' h'
      have hb : ∀ w', Below W3.drew.heap.size W3.drew w' → MB w' (w.heap.size + 1 + 1 + 1) o2 g2 := fun w' h' => H3.out.bb.below' h'
      refine wp_region_new2 10 11 12 (.cells #[.int .i64 (CM.atF 0).fl, .int .i64 (CM.atF 0).tg, .int .i64 (CM.atF 0).ti, .int .i64 (CM.atF 0).d.ph, .int .i64 (CM.atF 0).d.le, .int .i64 (CM.atF 0).d.ru, .bool (CM.atF 0).d.he, .bool (CM.atF 0).fa] 31) (.cells #[.int .i64 (CM.atF 0).fl, .int .i64 (CM.atF 0).tg, .int .i64 (CM.atF 0).ti, .int .i64 (CM.atF 0).d.ph, .int .i64 (CM.atF 0).d.le, .int .i64 (CM.atF 0).d.ru, .bool (CM.atF 0).d.he, .bool (CM.atF 0).fa] 31) (by kernel_rfl) (by kernel_rfl) ⟨_, rfl, rfl, fun _ => rfl, fun a w => by go_simp; rfl⟩ ⟨_, rfl, rfl, fun _ => rfl, fun a w => by go_simp; rfl⟩ rfl rfl (by decide) ?_
      simp only [List.take_succ_cons, List.take_zero, List.drop_succ_cons, List.drop_zero]
      unfold wpCalm
      generalize hK : wpCalm Try.prog _ _ _ _ = K
      rw [if_pos (by go_simp)]
      refine calm_load23 _ w.heap.size s rfl rfl hs ?_
      go_simp
      subst hK
      unfold wpCalm
      generalize hK : wpCalm Try.prog _ _ _ _ = K
      rw [if_pos (by go_simp)]
      refine calm_loadC _ (w.heap.size + 1) rfl rfl hc ?_
      go_simp
      subst hK
      unfold wpCalm
      generalize hK : wpCalm Try.prog _ _ _ _ = K
      rw [if_pos (by go_simp)]
      refine calm_loadMB _ (w.heap.size + 1 + 1) rfl rfl ha ?_
      go_simp
      subst hK
      unfold wpCalm
      generalize hK : wpCalm Try.prog _ _ _ _ = K
      unfold Oper.calm
      go_simp
      refine ⟨_, fun _ _ => rfl, ?_⟩
      subst hK
      unfold wpCalm
      generalize hK : wpCalm Try.prog _ _ _ _ = K
      unfold Oper.calm
      go_simp
      refine ⟨_, fun w' hw => cstep_to R HX.out w', ?_⟩
      subst hK
      unfold wpCalm
      generalize hK : wpCalm Try.prog _ _ _ _ = K
      rw [if_pos (by go_simp)]
      refine calm_load23 _ w.heap.size s rfl rfl hs ?_
      go_simp
      subst hK
      unfold wpCalm
      generalize hK : wpCalm Try.prog _ _ _ _ = K
      rw [if_pos (by go_simp)]
      refine calm_loadC _ (w.heap.size + 1) rfl rfl hc ?_
      go_simp
      subst hK
      unfold wpCalm
      generalize hK : wpCalm Try.prog _ _ _ _ = K
      rw [if_pos (by go_simp)]
      refine calm_loadMB _ (w.heap.size + 1 + 1 + 1) rfl rfl hb ?_
      go_simp
      subst hK
      unfold wpCalm
      generalize hK : wpCalm Try.prog _ _ _ _ = K
      unfold Oper.calm
      go_simp
      refine ⟨_, fun _ _ => rfl, ?_⟩
      subst hK
      unfold wpCalm
      generalize hK : wpCalm Try.prog _ _ _ _ = K
      unfold Oper.calm
      go_simp
      refine ⟨_, fun w' hw => cstep_to R HY.out w', ?_⟩
      subst hK
      refine wpCalm_nil ?_
      intro D E W4 hb4 hD hE hDE hzD hzE
      have H4 := Hid.intro' (H3.out.below hb4)
      have HD4 := Hid.intro' (zeroC hzD)
      have HE4 := Hid.intro' (zeroC hzE)
      have hDS : w.heap.size + 1 + 1 + 1 < D := Nat.lt_of_lt_of_le H3.out.bb.lt hD
      have hES : w.heap.size + 1 + 1 + 1 < E := Nat.lt_of_lt_of_le H3.out.bb.lt hE
      clear hb4 hzD hzE hs hc ha hb H3 hD hE
      go_wp2_with (refine wpList_storeC (c' := x) rfl _ _ rfl D rfl rfl HD4.out ?_)
      intro W5 hu hc
      have H5 := Hid.intro' (H4.out.upd hu hDS (by omega))
      have HE5 := Hid.intro' (hu.cb HE4.out (fun h => hDE h.symm))
      have HD5 := Hid.intro' hc
      clear hu hc H4 HD4 HE4
      go_wp2_with (refine wpList_storeC (c' := x) rfl _ _ rfl E rfl rfl HE5.out ?_)
      intro W6 hu hc
      have H6 := Hid.intro' (H5.out.upd hu hES (by omega))
      have HD6 := Hid.intro' (hu.cb HD5.out hDE)
      have HE6 := Hid.intro' hc
      clear hu hc H5 HD5 HE5
      have d7 := H6.out.cb.c7
      have f7 := H6.out.cb.fr 7
      have H7 := Hid.intro' (H6.out.fault (Nat.le_refl _) (!c.fa))
      have HD7 := Hid.intro' (HD6.out.other (b' := w.heap.size + 1) (by omega) 7 (.bool (!c.fa)))
      have HE7 := Hid.intro' (HE6.out.other (b' := w.heap.size + 1) (by omega) 7 (.bool (!c.fa)))
      clear H6 HD6 HE6
      go_wp2_with (first | (refine wpList_load23 rfl _ rfl w.heap.size s rfl H7.out.sb ?_) | (refine wpList_loadC (c := ⟨c.fl, c.tg, c.ti, c.d, !c.fa⟩) rfl _ rfl (w.heap.size + 1) rfl H7.out.cb ?_) | (refine wpList_loadMB rfl _ rfl (w.heap.size + 1 + 1 + 1) rfl H7.out.bb ?_))
      clear d7 f7
      refine (cstep_to (CM.rc_fault R (!c.fa)) HZ.out _).mono ?_
      rintro e W8 ⟨rfl, hb8⟩
      have HB8 := Hid.intro' (below_class H7.out.bel hb8)
      have HD8 := Hid.intro' (HD7.out.below' hb8)
      have HE8 := Hid.intro' (HE7.out.below' hb8)
      clear hb8 H7 HD7 HE7
      have hfa := HF.out
      obtain ⟨x1, x2, x3, x4, x5⟩ := x
      obtain rfl : x5 = c.fa := hfa
      have hq := eqC ⟨x1, x2, x3, x4, c.fa⟩
      simp only at hq
      go_wp2_with (first | (refine wpList_loadC (c := ⟨x1, x2, x3, x4, c.fa⟩) rfl _ rfl D rfl (HD8.out.alloc _) ?_) | (refine wpList_loadC (c := ⟨x1, x2, x3, x4, c.fa⟩) rfl _ rfl E rfl (HE8.out.alloc _) ?_) | (refine wpList_loadCg (c := ⟨x1, x2, x3, x4, c.fa⟩) rfl _ rfl E rfl (HE8.out.alloc _) ?_) | (refine wpList_loadCg (c := ⟨x1, x2, x3, x4, c.fa⟩) rfl _ rfl W8.heap.size rfl (CB.new W8 ⟨x1, x2, x3, x4, c.fa⟩) ?_))
      go_ret
      exact ⟨rfl, HB8.out.alloc HB8.out.size _⟩
    · have HS := Hid.intro' (CM.fault_idle (s := s) (c := ⟨c.fl, c.tg, c.ti, c.d, true⟩) hi rfl o1 g1 b)
      refine (H2.out.keep (idle_t c hi _)).mono ?_
      rintro e W3 ⟨rfl, hk⟩
      have d7 := hk.cb.c7
      have f7 := hk.cb.fr 7
      have H3 := Hid.intro' (hk.fault (Nat.le_refl _) true)
      clear hk H2 hi
      go_wp2_with fail
      clear d7 f7
      generalize W3.setCell _ _ = W4 at H3 ⊢
      have hs : ∀ w', Below W4.heap.size W4 w' → SB w' w.heap.size s := fun w' h' => H3.out.sb.below' h'
      have hc : ∀ w', Below W4.heap.size W4 w' → CB w' (w.heap.size + 1) ⟨c.fl, c.tg, c.ti, c.d, true⟩ := fun w' h' => H3.out.cb.below' h'
      have ha : ∀ w', Below W4.heap.size W4 w' → MB w' (w.heap.size + 1 + 1) o1 g1 := fun w' h' => H3.out.ab.below' h'
      have hq := eqC ⟨c.fl, c.tg, c.ti, c.d, true⟩
      refine wp_region_quiet (C := fun w' => Below W4.heap.size W4 w') (by kernel_rfl) (by kernel_rfl) ((Below.refl _ W4).drew) ?_
      simp only []
      unfold wpQuiet
      generalize hK : wpQuiet Try.prog _ _ _ _ = K
      rw [if_pos (by go_simp)]
      refine quiet_load23 _ w.heap.size s rfl rfl hs ?_
      go_simp
      subst hK
      unfold wpQuiet
      generalize hK : wpQuiet Try.prog _ _ _ _ = K
      rw [if_pos (by go_simp)]
      refine quiet_loadC _ (w.heap.size + 1) rfl rfl hc ?_
      go_simp
      subst hK
      unfold wpQuiet
      generalize hK : wpQuiet Try.prog _ _ _ _ = K
      rw [if_pos (by go_simp)]
      refine quiet_loadMB _ (w.heap.size + 1 + 1) rfl rfl ha ?_
      go_simp
      subst hK
      unfold wpQuiet
      generalize hK : wpQuiet Try.prog _ _ _ _ = K
      go_simp
      refine ⟨_, fun _ _ => rfl, ?_⟩
      subst hK
      unfold wpQuiet
      generalize hK : wpQuiet Try.prog _ _ _ _ = K
      go_simp
      refine ⟨_, fun w' hw => (cstep_to (CM.rc_fault R true) HS.out w').mono fun e w'' hh => ⟨hh.1, below_class hw hh.2⟩, ?_⟩
      subst hK
      unfold wpQuiet
      generalize hK : wpQuiet Try.prog _ _ _ _ = K
      rw [if_pos (by go_simp)]
      refine quiet_loadC _ (w.heap.size + 1) rfl rfl hc ?_
      go_simp
      subst hK
      unfold wpQuiet
      generalize hK : wpQuiet Try.prog _ _ _ _ = K
      go_simp
      refine ⟨_, fun _ _ => rfl, ?_⟩
      subst hK
      unfold wpQuiet
      generalize hK : wpQuiet Try.prog _ _ _ _ = K
      go_simp
      refine ⟨_, fun _ _ => rfl, ?_⟩
      subst hK
      refine wpQuiet_nil ?_
      intro W5 hb5
      have HB5 := Hid.intro' (below_class H3.out.bel hb5)
      clear hb5 hs hc ha hq H3
      go_wp2
      go_ret
      exact ⟨rfl, HB5.out⟩

end Go.Proofs.Ytjcccdlhdffbdac
