/- A tick of a car, as the program has it. -/
import Derived.Test.YtjcccdlhdffbdacCarR
namespace Go.Proofs.Ytjcccdlhdffbdac
open Go.RowKit

/-- the blocks of a tick: the site, the car, the command, the result -/
structure Bk (w0 W : World) (S : Nat) (s : St) (c : Cr) (o : Bool) (g : Int) : Prop where
  bel : Below w0.heap.size w0 W
  sb : SB W S s
  cb : CB W (S + 1) c
  mb : MB W (S + 1 + 1) o g
  eb : CB W (S + 1 + 1 + 1) (CM.atF 0)
theorem Bk.new (w : World) (s : St) (c : Cr) (o : Bool) (g : Int) :
    Bk w ((((w.alloc (.cells (sv s).toArray 23)).alloc (.cells #[.int .i64 c.fl, .int .i64 c.tg, .int .i64 c.ti, .int .i64 c.d.ph, .int .i64 c.d.le, .int .i64 c.d.ru, .bool c.d.he, .bool c.fa] 31)).alloc (.cells #[.bool o, .int .i64 g] 35)).alloc (.cells #[.int .i64 0, .int .i64 0, .int .i64 0, .int .i64 0, .int .i64 0, .int .i64 0, .bool false, .bool false] 31)) w.heap.size s c o g :=
  ⟨((((Below.refl _ w).alloc (Nat.le_refl _) _).alloc (by simp) _).alloc (by simp; omega) _).alloc (by simp; omega) _, (((SB.new w s).alloc _).alloc _).alloc _, ((CB.new' _ c (by simp)).alloc _).alloc _, (MB.new' _ o g (by simp)).alloc _, CB.new' _ (CM.atF 0) (by simp)⟩
theorem Bk.keep {w0 W : World} {S : Nat} {s : St} {c : Cr} {o : Bool} {g : Int} {f : FuncId} {args : Array Value} {R : Ending → Prop} (h : Bk w0 W S s c o g)
    (hc : Calls Try.prog f args W fun e w' => R e ∧ Below W.heap.size W w') : Calls Try.prog f args W fun e w' => R e ∧ Bk w0 w' S s c o g :=
  hc.mono fun _ _ hh => ⟨hh.1, below_class h.bel hh.2, h.sb.below' hh.2, h.cb.below' hh.2, h.mb.below' hh.2, h.eb.below' hh.2⟩

set_option maxHeartbeats 1000000 in
theorem cstep_moves (s : St) (c : Cr) (o : Bool) (g : Int) (b : Bool) (h1 : 1 ≤ c.ti) (h2 : c.ti ≤ 65000) (w : World) :
    Calls Try.prog 16 #[.agg (sv s).toArray, .agg #[.int .i64 c.fl, .int .i64 c.tg, .int .i64 c.ti, .int .i64 c.d.ph, .int .i64 c.d.le, .int .i64 c.d.ru, .bool c.d.he, .bool c.fa], .agg #[.bool o, .int .i64 g], .bool b] w fun e w' => e = .returned (cv (CM.ride c)) ∧ Below w.heap.size w w' := by
  have H0 := Hid.intro' (Bk.new w s c o g)
  go_enter Try.func16, Try.ntmps16
  go_wp2_with (refine wpList_loadC rfl _ rfl (w.heap.size + 1) rfl H0.out.cb ?_)
  refine (H0.out.keep (moves_t c (by omega) _)).mono ?_
  rintro e W1 ⟨rfl, hk⟩
  have H1 := Hid.intro' hk
  clear hk H0
  go_wp2_with (refine wpList_loadC rfl _ rfl (w.heap.size + 1) rfl H1.out.cb ?_)
  refine (H1.out.keep (ride_any c h1 h2 _)).mono ?_
  rintro e W2 ⟨rfl, hk⟩
  have H2 := Hid.intro' hk
  clear hk H1 h1 h2
  generalize hgen : CM.ride c = c'
  have HG := Hid.intro' hgen
  clear hgen
  simp only [cv]
  go_wp2_with (refine wpList_storeC rfl _ _ rfl (w.heap.size + 1 + 1 + 1) rfl rfl H2.out.eb ?_)
  intro W3 hu hc
  go_wp2
  exact bodyPost_ret (retC Try.results16 rfl hc) rfl ⟨by rw [HG.out]; rfl, hu.below H2.out.bel (by omega)⟩

set_option maxHeartbeats 1000000 in
theorem cstep_door (s : St) (c : Cr) (o : Bool) (g : Int) (b : Bool) (R : SM.Rt s) (hd : DM.Rd s c.d) (hm : c.ti = 0) (hp : c.d.ph ≠ 0) (w : World) :
    Calls Try.prog 16 #[.agg (sv s).toArray, .agg #[.int .i64 c.fl, .int .i64 c.tg, .int .i64 c.ti, .int .i64 c.d.ph, .int .i64 c.d.le, .int .i64 c.d.ru, .bool c.d.he, .bool c.fa], .agg #[.bool o, .int .i64 g], .bool b] w fun e w' => e = .returned (cv ⟨c.fl, c.tg, c.ti, DM.step s c.d o b, c.fa⟩) ∧ Below w.heap.size w w' := by
  have H0 := Hid.intro' (Bk.new w s c o g)
  have HM := Hid.intro' hm
  have HP := Hid.intro' hp
  clear hm hp
  go_enter Try.func16, Try.ntmps16
  go_wp2_with (refine wpList_loadC rfl _ rfl (w.heap.size + 1) rfl H0.out.cb ?_)
  refine (H0.out.keep (moves_f c HM.out _)).mono ?_
  rintro e W1 ⟨rfl, hk⟩
  have H1 := Hid.intro' hk
  clear hk H0
  go_wp2_with (refine wpList_loadC rfl _ rfl (w.heap.size + 1) rfl H1.out.cb ?_)
  refine (H1.out.keep (shutC_f c HP.out _)).mono ?_
  rintro e W2 ⟨rfl, hk⟩
  have H2 := Hid.intro' hk
  have m0 := hk.mb.c0
  clear hk H1
  go_wp2_with (first | (refine wpList_load23 rfl _ rfl w.heap.size s rfl H2.out.sb ?_) | (refine wpList_loadM rfl _ rfl (w.heap.size + 1) rfl H2.out.cb ?_))
  refine (H2.out.keep (step_any s R c.d hd o b _)).mono ?_
  rintro e W3 ⟨rfl, hk⟩
  have H3 := Hid.intro' hk
  clear hk H2 m0 hd
  generalize hgen : DM.step s c.d o b = d'
  have HG := Hid.intro' hgen
  clear hgen
  simp only [dv]
  go_wp2_with (refine wpList_storeM rfl _ _ rfl (w.heap.size + 1) rfl rfl H3.out.cb ?_)
  intro W4 hu hc
  have HB4 := Hid.intro' (hu.below H3.out.bel (by omega))
  have HE4 := Hid.intro' (hu.cb H3.out.eb (by omega))
  have HC4 := Hid.intro' hc
  clear hu hc H3
  go_wp2_with (first | (refine wpList_loadC rfl _ rfl (w.heap.size + 1) rfl HC4.out ?_) | (refine wpList_storeC (c' := ⟨c.fl, c.tg, c.ti, d', c.fa⟩) rfl _ _ rfl (w.heap.size + 1 + 1 + 1) rfl rfl HE4.out ?_))
  intro W5 hu hc
  go_wp2
  exact bodyPost_ret (retC Try.results16 rfl hc) rfl ⟨by rw [HG.out]; rfl, hu.below HB4.out (by omega)⟩

set_option maxHeartbeats 1000000 in
theorem cstep_fault (s : St) (c : Cr) (o : Bool) (g : Int) (b : Bool) (hm : c.ti = 0) (hp : c.d.ph = 0) (hf : c.fa = true) (w : World) :
    Calls Try.prog 16 #[.agg (sv s).toArray, .agg #[.int .i64 c.fl, .int .i64 c.tg, .int .i64 c.ti, .int .i64 c.d.ph, .int .i64 c.d.le, .int .i64 c.d.ru, .bool c.d.he, .bool c.fa], .agg #[.bool o, .int .i64 g], .bool b] w fun e w' => e = .returned (cv c) ∧ Below w.heap.size w w' := by
  have H0 := Hid.intro' (Bk.new w s c o g)
  have HM := Hid.intro' hm
  have HP := Hid.intro' hp
  have HF := Hid.intro' hf
  clear hm hp hf
  go_enter Try.func16, Try.ntmps16
  go_wp2_with (refine wpList_loadC rfl _ rfl (w.heap.size + 1) rfl H0.out.cb ?_)
  refine (H0.out.keep (moves_f c HM.out _)).mono ?_
  rintro e W1 ⟨rfl, hk⟩
  have H1 := Hid.intro' hk
  clear hk H0
  go_wp2_with (refine wpList_loadC rfl _ rfl (w.heap.size + 1) rfl H1.out.cb ?_)
  refine (H1.out.keep (shutC_t c HP.out _)).mono ?_
  rintro e W2 ⟨rfl, hk⟩
  have H2 := Hid.intro' hk
  have m7 : W2.cell? ⟨w.heap.size + 1, 7, none⟩ = some (.bool true) := by rw [← HF.out]; exact hk.cb.c7
  clear hk H1
  go_wp2_with (first | (refine wpList_loadC rfl _ rfl (w.heap.size + 1) rfl H2.out.cb ?_) | (refine wpList_storeC (c' := c) rfl _ _ rfl (w.heap.size + 1 + 1 + 1) rfl rfl H2.out.eb ?_))
  intro W5 hu hc
  clear m7
  go_wp2
  exact bodyPost_ret (retC Try.results16 rfl hc) rfl ⟨rfl, hu.below H2.out.bel (by omega)⟩

set_option maxHeartbeats 1000000 in
theorem cstep_opens (s : St) (c : Cr) (g : Int) (b : Bool) (R : SM.Rt s) (hd : DM.Rd s c.d) (hm : c.ti = 0) (hp : c.d.ph = 0) (hf : c.fa = false) (w : World) :
    Calls Try.prog 16 #[.agg (sv s).toArray, .agg #[.int .i64 c.fl, .int .i64 c.tg, .int .i64 c.ti, .int .i64 c.d.ph, .int .i64 c.d.le, .int .i64 c.d.ru, .bool c.d.he, .bool c.fa], .agg #[.bool true, .int .i64 g], .bool b] w fun e w' => e = .returned (cv ⟨c.fl, c.tg, c.ti, DM.step s c.d true b, c.fa⟩) ∧ Below w.heap.size w w' := by
  have H0 := Hid.intro' (Bk.new w s c true g)
  have HM := Hid.intro' hm
  have HP := Hid.intro' hp
  have HF := Hid.intro' hf
  clear hm hp hf
  go_enter Try.func16, Try.ntmps16
  go_wp2_with (refine wpList_loadC rfl _ rfl (w.heap.size + 1) rfl H0.out.cb ?_)
  refine (H0.out.keep (moves_f c HM.out _)).mono ?_
  rintro e W1 ⟨rfl, hk⟩
  have H1 := Hid.intro' hk
  clear hk H0
  go_wp2_with (refine wpList_loadC rfl _ rfl (w.heap.size + 1) rfl H1.out.cb ?_)
  refine (H1.out.keep (shutC_t c HP.out _)).mono ?_
  rintro e W2 ⟨rfl, hk⟩
  have H2 := Hid.intro' hk
  have m0 := hk.mb.c0
  have m7 : W2.cell? ⟨w.heap.size + 1, 7, none⟩ = some (.bool false) := by rw [← HF.out]; exact hk.cb.c7
  clear hk H1
  go_wp2_with (first | (refine wpList_load23 rfl _ rfl w.heap.size s rfl H2.out.sb ?_) | (refine wpList_loadM rfl _ rfl (w.heap.size + 1) rfl H2.out.cb ?_))
  refine (H2.out.keep (step_any s R c.d hd true b _)).mono ?_
  rintro e W3 ⟨rfl, hk⟩
  have H3 := Hid.intro' hk
  clear hk H2 m0 m7 hd
  generalize hgen : DM.step s c.d true b = d'
  have HG := Hid.intro' hgen
  clear hgen
  simp only [dv]
  go_wp2_with (refine wpList_storeM rfl _ _ rfl (w.heap.size + 1) rfl rfl H3.out.cb ?_)
  intro W4 hu hc
  have HB4 := Hid.intro' (hu.below H3.out.bel (by omega))
  have HE4 := Hid.intro' (hu.cb H3.out.eb (by omega))
  have HC4 := Hid.intro' hc
  clear hu hc H3
  go_wp2_with (first | (refine wpList_loadC rfl _ rfl (w.heap.size + 1) rfl HC4.out ?_) | (refine wpList_storeC (c' := ⟨c.fl, c.tg, c.ti, d', c.fa⟩) rfl _ _ rfl (w.heap.size + 1 + 1 + 1) rfl rfl HE4.out ?_))
  intro W5 hu hc
  go_wp2
  exact bodyPost_ret (retC Try.results16 rfl hc) rfl ⟨by rw [HG.out]; rfl, hu.below HB4.out (by omega)⟩

set_option maxHeartbeats 1000000 in
theorem cstep_stays (s : St) (c : Cr) (g : Int) (b : Bool) (hm : c.ti = 0) (hp : c.d.ph = 0) (hf : c.fa = false) (hg : ¬ (g ≠ c.fl ∧ CM.has s g = true)) (w : World) :
    Calls Try.prog 16 #[.agg (sv s).toArray, .agg #[.int .i64 c.fl, .int .i64 c.tg, .int .i64 c.ti, .int .i64 c.d.ph, .int .i64 c.d.le, .int .i64 c.d.ru, .bool c.d.he, .bool c.fa], .agg #[.bool false, .int .i64 g], .bool b] w fun e w' => e = .returned (cv c) ∧ Below w.heap.size w w' := by
  have H0 := Hid.intro' (Bk.new w s c false g)
  have HM := Hid.intro' hm
  have HP := Hid.intro' hp
  have HF := Hid.intro' hf
  have HG := Hid.intro' hg
  clear hm hp hf hg
  go_enter Try.func16, Try.ntmps16
  go_wp2_with (refine wpList_loadC rfl _ rfl (w.heap.size + 1) rfl H0.out.cb ?_)
  refine (H0.out.keep (moves_f c HM.out _)).mono ?_
  rintro e W1 ⟨rfl, hk⟩
  have H1 := Hid.intro' hk
  clear hk H0
  go_wp2_with (refine wpList_loadC rfl _ rfl (w.heap.size + 1) rfl H1.out.cb ?_)
  refine (H1.out.keep (shutC_t c HP.out _)).mono ?_
  rintro e W2 ⟨rfl, hk⟩
  have H2 := Hid.intro' hk
  have m0 := hk.mb.c0
  have m1 := hk.mb.c1
  have c0 := hk.cb.c0
  have m7 : W2.cell? ⟨w.heap.size + 1, 7, none⟩ = some (.bool false) := by rw [← HF.out]; exact hk.cb.c7
  clear hk H1
  by_cases hn : g = c.fl
  · have hq : (g != c.fl) = false := by simpa using hn
    clear hn
    go_wp2_with (first | (refine wpList_loadC rfl _ rfl (w.heap.size + 1) rfl H2.out.cb ?_) | (refine wpList_storeC (c' := c) rfl _ _ rfl (w.heap.size + 1 + 1 + 1) rfl rfl H2.out.eb ?_))
    intro W5 hu hc
    clear m0 m1 m7 c0
    go_wp2
    exact bodyPost_ret (retC Try.results16 rfl hc) rfl ⟨rfl, hu.below H2.out.bel (by omega)⟩
  · have hq : (g != c.fl) = true := by simpa using hn
    have hh : CM.has s g = false := by
      cases h : CM.has s g
      · rfl
      · exact absurd ⟨hn, h⟩ HG.out
    clear hn
    go_wp2_with (refine wpList_load23g rfl _ rfl w.heap.size s rfl H2.out.sb ?_)
    refine (H2.out.keep (has_f s g hh _)).mono ?_
    rintro e W3 ⟨rfl, hk⟩
    have H3 := Hid.intro' hk
    clear hk H2 m0 m1 m7 c0 hh
    go_wp2_with (first | (refine wpList_loadC rfl _ rfl (w.heap.size + 1) rfl H3.out.cb ?_) | (refine wpList_storeC (c' := c) rfl _ _ rfl (w.heap.size + 1 + 1 + 1) rfl rfl H3.out.eb ?_))
    intro W5 hu hc
    go_wp2
    exact bodyPost_ret (retC Try.results16 rfl hc) rfl ⟨rfl, hu.below H3.out.bel (by omega)⟩

end Go.Proofs.Ytjcccdlhdffbdac
