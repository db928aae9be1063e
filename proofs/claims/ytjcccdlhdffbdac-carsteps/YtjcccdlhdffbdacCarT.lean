/- A tick of a car, as the document's answer has it. -/
import Derived.Test.YtjcccdlhdffbdacCarS
import Derived.Test.YtjcccdlhdffbdacDoorT
namespace Go.Proofs.Ytjcccdlhdffbdac
open Go.RowKit

set_option maxHeartbeats 1000000 in
theorem rcstep_moves (s : St) (c : Cr) (o : Bool) (g : Int) (b : Bool) (h1 : 1 ≤ c.ti) (h2 : c.ti ≤ 65000) (w : World) :
    Calls Try.prog 15 #[.agg (sv s).toArray, .agg #[.int .i64 c.fl, .int .i64 c.tg, .int .i64 c.ti, .int .i64 c.d.ph, .int .i64 c.d.le, .int .i64 c.d.ru, .bool c.d.he, .bool c.fa], .agg #[.bool o, .int .i64 g], .bool b] w fun e w' => e = .returned (cv (CM.ride c)) ∧ Below w.heap.size w w' := by
  obtain ⟨f, t, k, d, x⟩ := c
  simp only at h1 h2
  have h0 : 0 < k := by omega
  by_cases hk : k = 1
  · subst hk
    clear h1 h2 h0
    go_enter Try.func15, Try.ntmps15
    go_wp2
    refine bodyPost_ret (by simp [results, Try.results15, go_sem]; rfl) rfl ?_
    exact ⟨rfl, ((((Below.refl _ w).alloc (Nat.le_refl _) _).alloc (by simp) _).alloc (by simp; omega) _).alloc (by simp; omega) _⟩
  · have hq : (k - 1 == 0) = false := by simp; omega
    have HK := Hid.intro' hk
    clear hk
    go_enter Try.func15, Try.ntmps15
    go_wp2
    refine bodyPost_ret (by simp [results, Try.results15, go_sem]; rfl) rfl ?_
    refine ⟨?_, ((((Below.refl _ w).alloc (Nat.le_refl _) _).alloc (by simp) _).alloc (by simp; omega) _).alloc (by simp; omega) _⟩
    unfold CM.ride
    rw [if_neg HK.out]
    rfl

set_option maxHeartbeats 1000000 in
theorem rcstep_door (s : St) (c : Cr) (o : Bool) (g : Int) (b : Bool) (R : SM.Rt s) (hd : DM.Rd s c.d) (hm : c.ti = 0) (hp : c.d.ph ≠ 0) (w : World) :
    Calls Try.prog 15 #[.agg (sv s).toArray, .agg #[.int .i64 c.fl, .int .i64 c.tg, .int .i64 c.ti, .int .i64 c.d.ph, .int .i64 c.d.le, .int .i64 c.d.ru, .bool c.d.he, .bool c.fa], .agg #[.bool o, .int .i64 g], .bool b] w fun e w' => e = .returned (cv ⟨c.fl, c.tg, c.ti, DM.step s c.d o b, c.fa⟩) ∧ Below w.heap.size w w' := by
  have H2 := Hid.intro' (Bk.new w s c o g)
  have hm' : decide (0 < c.ti) = false := by simp; omega
  have hp' : (c.d.ph != 0) = true := by simpa using hp
  clear hm hp
  go_enter Try.func15, Try.ntmps15
  go_wp2_with (first | (refine wpList_load23 rfl _ rfl w.heap.size s rfl H2.out.sb ?_) | (refine wpList_loadM rfl _ rfl (w.heap.size + 1) rfl H2.out.cb ?_))
  refine (H2.out.keep (rstep_any s R c.d hd o b _)).mono ?_
  rintro e W3 ⟨rfl, hk⟩
  have H3 := Hid.intro' hk
  clear hk H2 hd hm' hp'
  generalize hgen : DM.step s c.d o b = d'
  have HG := Hid.intro' hgen
  clear hgen
  simp only [dv]
  go_wp2_with (refine wpList_storeM rfl _ _ rfl (w.heap.size + 1) rfl rfl H3.out.cb ?_)
  intro W4 hu hc
  have HB4 := Hid.intro' (hu.below H3.out.bel (by omega))
  have HE4 := Hid.intro' (hu.cb H3.out.eb (by omega))
  have HC4 := Hid.intro' hc
  clear hu hc H3
  go_wp2_with (first | (refine wpList_loadC rfl _ rfl (w.heap.size + 1) rfl HC4.out ?_) | (refine wpList_storeC (c' := ⟨c.fl, c.tg, c.ti, d', c.fa⟩) rfl _ _ rfl (w.heap.size + 1 + 1 + 1) rfl rfl HE4.out ?_))
  intro W5 hu hc
  go_wp2
  exact bodyPost_ret (retC Try.results15 rfl hc) rfl ⟨by rw [HG.out]; rfl, hu.below HB4.out (by omega)⟩

set_option maxHeartbeats 1000000 in
theorem rcstep_fault (s : St) (c : Cr) (o : Bool) (g : Int) (b : Bool) (hm : c.ti = 0) (hp : c.d.ph = 0) (hf : c.fa = true) (w : World) :
    Calls Try.prog 15 #[.agg (sv s).toArray, .agg #[.int .i64 c.fl, .int .i64 c.tg, .int .i64 c.ti, .int .i64 c.d.ph, .int .i64 c.d.le, .int .i64 c.d.ru, .bool c.d.he, .bool c.fa], .agg #[.bool o, .int .i64 g], .bool b] w fun e w' => e = .returned (cv c) ∧ Below w.heap.size w w' := by
  obtain ⟨f, t, k, d, x⟩ := c
  obtain rfl : k = 0 := hm
  obtain rfl : x = true := hf
  have hp' : (d.ph != 0) = false := by simpa using hp
  clear hp
  go_enter Try.func15, Try.ntmps15
  go_wp2
  refine bodyPost_ret (by simp [results, Try.results15, go_sem]; rfl) rfl ?_
  exact ⟨rfl, ((((Below.refl _ w).alloc (Nat.le_refl _) _).alloc (by simp) _).alloc (by simp; omega) _).alloc (by simp; omega) _⟩

set_option maxHeartbeats 1000000 in
theorem rcstep_opens (s : St) (c : Cr) (g : Int) (b : Bool) (R : SM.Rt s) (hd : DM.Rd s c.d) (hm : c.ti = 0) (hp : c.d.ph = 0) (hf : c.fa = false) (w : World) :
    Calls Try.prog 15 #[.agg (sv s).toArray, .agg #[.int .i64 c.fl, .int .i64 c.tg, .int .i64 c.ti, .int .i64 c.d.ph, .int .i64 c.d.le, .int .i64 c.d.ru, .bool c.d.he, .bool c.fa], .agg #[.bool true, .int .i64 g], .bool b] w fun e w' => e = .returned (cv ⟨c.fl, c.tg, c.ti, DM.step s c.d true b, c.fa⟩) ∧ Below w.heap.size w w' := by
  obtain ⟨f, t, k, d, x⟩ := c
  obtain rfl : k = 0 := hm
  obtain rfl : x = false := hf
  have hp' : (d.ph != 0) = false := by simpa using hp
  have H2 := Hid.intro' (Bk.new w s ⟨f, t, 0, d, false⟩ true g)
  clear hp
  go_enter Try.func15, Try.ntmps15
  go_wp2_with (first | (refine wpList_load23 rfl _ rfl w.heap.size s rfl H2.out.sb ?_) | (refine wpList_loadM rfl _ rfl (w.heap.size + 1) rfl H2.out.cb ?_))
  refine (H2.out.keep (rstep_any s R d hd true b _)).mono ?_
  rintro e W3 ⟨rfl, hk⟩
  have H3 := Hid.intro' hk
  clear hk H2 hd hp'
  generalize hgen : DM.step s d true b = d'
  have HG := Hid.intro' hgen
  clear hgen
  simp only [dv]
  go_wp2_with (refine wpList_storeM rfl _ _ rfl (w.heap.size + 1) rfl rfl H3.out.cb ?_)
  intro W4 hu hc
  have HB4 := Hid.intro' (hu.below H3.out.bel (by omega))
  have HE4 := Hid.intro' (hu.cb H3.out.eb (by omega))
  have HC4 := Hid.intro' hc
  clear hu hc H3
  go_wp2_with (first | (refine wpList_loadC rfl _ rfl (w.heap.size + 1) rfl HC4.out ?_) | (refine wpList_storeC (c' := ⟨f, t, 0, d', false⟩) rfl _ _ rfl (w.heap.size + 1 + 1 + 1) rfl rfl HE4.out ?_))
  intro W5 hu hc
  go_wp2
  exact bodyPost_ret (retC Try.results15 rfl hc) rfl ⟨by rw [HG.out]; rfl, hu.below HB4.out (by omega)⟩

set_option maxHeartbeats 2000000 in
theorem rcstep_stays (s : St) (c : Cr) (g : Int) (b : Bool) (hm : c.ti = 0) (hp : c.d.ph = 0) (hf : c.fa = false) (hg : ¬ (g ≠ c.fl ∧ CM.has s g = true)) (w : World) :
    Calls Try.prog 15 #[.agg (sv s).toArray, .agg #[.int .i64 c.fl, .int .i64 c.tg, .int .i64 c.ti, .int .i64 c.d.ph, .int .i64 c.d.le, .int .i64 c.d.ru, .bool c.d.he, .bool c.fa], .agg #[.bool false, .int .i64 g], .bool b] w fun e w' => e = .returned (cv c) ∧ Below w.heap.size w w' := by
  obtain ⟨f, t, k, d, x⟩ := c
  obtain rfl : k = 0 := hm
  obtain rfl : x = false := hf
  have e0 : (sv s)[0]? = some (.int .i64 s.fl) := rfl
  have hp' : (d.ph != 0) = false := by simpa using hp
  have HG := Hid.intro' hg
  clear hp hg
  rcases Bool.eq_false_or_eq_true (decide (0 ≤ g)) with k1 | k1
  · rcases Bool.eq_false_or_eq_true (decide (g < s.fl)) with k2 | k2
    · have k3 : (g != f) = false := by
        have := HG.out
        rw [has_iff] at this
        simp only [decide_eq_true_eq] at k1 k2
        simp only [bne_eq_false_iff_eq]
        exact Classical.byContradiction fun h => this ⟨h, k1, k2⟩
      go_enter Try.func15, Try.ntmps15
      go_wp2
      refine bodyPost_ret (by simp [results, Try.results15, go_sem]; rfl) rfl ?_
      exact ⟨rfl, ((((Below.refl _ w).alloc (Nat.le_refl _) _).alloc (by simp) _).alloc (by simp; omega) _).alloc (by simp; omega) _⟩
    · go_enter Try.func15, Try.ntmps15
      go_wp2
      refine bodyPost_ret (by simp [results, Try.results15, go_sem]; rfl) rfl ?_
      exact ⟨rfl, ((((Below.refl _ w).alloc (Nat.le_refl _) _).alloc (by simp) _).alloc (by simp; omega) _).alloc (by simp; omega) _⟩
  · go_enter Try.func15, Try.ntmps15
    go_wp2
    refine bodyPost_ret (by simp [results, Try.results15, go_sem]; rfl) rfl ?_
    exact ⟨rfl, ((((Below.refl _ w).alloc (Nat.le_refl _) _).alloc (by simp) _).alloc (by simp; omega) _).alloc (by simp; omega) _⟩

set_option maxHeartbeats 2000000 in
theorem rcstep_goes (s : St) (c : Cr) (g : Int) (b : Bool) (R : SM.Rt s) (hm : c.ti = 0) (hp : c.d.ph = 0) (hf : c.fa = false) (hg : g ≠ c.fl) (hh : CM.has s g = true) (w : World) :
    Calls Try.prog 15 #[.agg (sv s).toArray, .agg #[.int .i64 c.fl, .int .i64 c.tg, .int .i64 c.ti, .int .i64 c.d.ph, .int .i64 c.d.le, .int .i64 c.d.ru, .bool c.d.he, .bool c.fa], .agg #[.bool false, .int .i64 g], .bool b] w fun e w' => e = .returned (cv ⟨c.fl, g, SM.trav s c.fl g, c.d, c.fa⟩) ∧ Below w.heap.size w w' := by
  obtain ⟨f, t, k, d, x⟩ := c
  obtain rfl : k = 0 := hm
  obtain rfl : x = false := hf
  have H2 := Hid.intro' (Bk.new w s ⟨f, g, 0, d, false⟩ false g)
  have e0 : (sv s)[0]? = some (.int .i64 s.fl) := rfl
  have hp' : (d.ph != 0) = false := by simpa using hp
  have k3 : (g != f) = true := by simpa using hg
  have k1 : decide (0 ≤ g) = true := by rw [has_iff] at hh; simp; omega
  have k2 : decide (g < s.fl) = true := by rw [has_iff] at hh; simp; omega
  clear hp hg hh
  go_enter Try.func15, Try.ntmps15
  go_wp2_with (refine wpList_load23 rfl _ rfl w.heap.size s rfl H2.out.sb ?_)
  clear e0 hp' k1 k2 k3
  refine (H2.out.keep (rtravel_any s R f g _)).mono ?_
  rintro e W3 ⟨rfl, hk⟩
  have H3 := Hid.intro' hk
  clear hk H2
  have d2 := H3.out.cb.c2
  have f2 := H3.out.cb.fr 2
  have HB4 := Hid.intro' ((Upd.set H3.out.cb 2 (.int .i64 (SM.trav s f g))).below H3.out.bel (by omega))
  have HE4 := Hid.intro' ((Upd.set H3.out.cb 2 (.int .i64 (SM.trav s f g))).cb H3.out.eb (by omega))
  have HC4 := Hid.intro' (H3.out.cb.set2 (SM.trav s f g))
  clear H3
  go_wp2_with (first | (refine wpList_loadC rfl _ rfl (w.heap.size + 1) rfl HC4.out ?_) | (refine wpList_storeC (c' := ⟨f, g, SM.trav s f g, d, false⟩) rfl _ _ rfl (w.heap.size + 1 + 1 + 1) rfl rfl HE4.out ?_))
  intro W5 hu hc
  clear d2 f2
  go_wp2
  exact bodyPost_ret (retC Try.results15 rfl hc) rfl ⟨rfl, hu.below HB4.out (by omega)⟩

/-- a tick of a right car -/
theorem rcstep_any (s : St) (c : Cr) (h : CM.Rc s c) (o : Bool) (g : Int) (b : Bool) (w : World) :
    Calls Try.prog 15 #[.agg (sv s).toArray, .agg #[.int .i64 c.fl, .int .i64 c.tg, .int .i64 c.ti, .int .i64 c.d.ph, .int .i64 c.d.le, .int .i64 c.d.ru, .bool c.d.he, .bool c.fa], .agg #[.bool o, .int .i64 g], .bool b] w fun e w' => e = .returned (cv (CM.step s c o g b)) ∧ Below w.heap.size w w' := by
  unfold CM.step
  split
  · rename_i hm
    obtain ⟨_, m2, _, _⟩ := h.mo hm
    exact rcstep_moves s c o g b m2 h.ti_bd.2 w
  · rename_i hm
    have hm' : c.ti = 0 := by omega
    split
    · rename_i hp
      exact rcstep_door s c o g b h.rs h.rd hm' hp w
    · rename_i hp
      have hp' : c.d.ph = 0 := by omega
      split
      · rename_i hf
        exact rcstep_fault s c o g b hm' hp' hf w
      · rename_i hf
        have hf' : c.fa = false := by simpa using hf
        split
        · rename_i ho
          subst ho
          exact rcstep_opens s c g b h.rs h.rd hm' hp' hf' w
        · rename_i ho
          obtain rfl : o = false := by simpa using ho
          split
          · rename_i hg
            exact rcstep_goes s c g b h.rs hm' hp' hf' hg.1 hg.2 w
          · rename_i hg
            exact rcstep_stays s c g b hm' hp' hf' hg w

end Go.Proofs.Ytjcccdlhdffbdac
