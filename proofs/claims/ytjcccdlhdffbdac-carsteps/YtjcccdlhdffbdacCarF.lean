/- Whether a car that was so may be so a tick later, as the program tells it and as the document's answer does. -/
import Derived.Test.YtjcccdlhdffbdacCarR
namespace Go.Proofs.Ytjcccdlhdffbdac
open Go.RowKit

def sfW (a b : Cr) : Bool :=
  if b.ti ≠ 0 then (if a.ti ≠ 0 then decide (a.fl = b.fl ∧ a.tg = b.tg ∧ a.ti = b.ti + 1) else decide (a.d.ph = 0 ∧ a.fl = b.fl))
  else if a.ti ≠ 0 then decide (a.ti = 1 ∧ a.tg = b.fl ∧ b.d.ph = 0) else decide (a.fl = b.fl)
/-- a safe tick, as a Boolean -/
def sfB (s : St) (a b : Cr) : Bool := crB s a && crB s b && sfW a b
theorem sfW_iff (a b : Cr) : sfW a b = true ↔ CM.Sf a b := by
  unfold sfW CM.Sf
  split
  · split <;> exact decide_eq_true_iff
  · split <;> exact decide_eq_true_iff
theorem sfB_true {s : St} {a b : Cr} (h1 : CM.Rc s a) (h2 : CM.Rc s b) (h3 : CM.Sf a b) : sfB s a b = true := by
  unfold sfB; rw [crB_true h1, crB_true h2, (sfW_iff a b).2 h3]; rfl
theorem sfB_1 {s : St} {a b : Cr} (h : crB s a = false) : sfB s a b = false := by unfold sfB; rw [h]; rfl
theorem sfB_2 {s : St} {a b : Cr} (h : crB s b = false) : sfB s a b = false := by unfold sfB; rw [h, Bool.and_false]; rfl
theorem sfB_w {s : St} {a b : Cr} (h1 : crB s a = true) (h2 : crB s b = true) : sfB s a b = sfW a b := by unfold sfB; rw [h1, h2]; rfl
theorem sfW11 {a b : Cr} (h1 : a.ti ≠ 0) (h2 : b.ti ≠ 0) : sfW a b = decide (a.fl = b.fl ∧ a.tg = b.tg ∧ a.ti = b.ti + 1) := by unfold sfW; rw [if_pos h2, if_pos h1]
theorem sfW01 {a b : Cr} (h1 : a.ti = 0) (h2 : b.ti ≠ 0) : sfW a b = decide (a.d.ph = 0 ∧ a.fl = b.fl) := by unfold sfW; rw [if_pos h2, if_neg (fun h => h h1)]
theorem sfW10 {a b : Cr} (h1 : a.ti ≠ 0) (h2 : b.ti = 0) : sfW a b = decide (a.ti = 1 ∧ a.tg = b.fl ∧ b.d.ph = 0) := by unfold sfW; rw [if_neg (fun h => h h2), if_pos h1]
theorem sfW00 {a b : Cr} (h1 : a.ti = 0) (h2 : b.ti = 0) : sfW a b = decide (a.fl = b.fl) := by unfold sfW; rw [if_neg (fun h => h h2), if_neg (fun h => h h1)]

theorem cright_t (s : St) (c : Cr) (h : crB s c = true) (w : World) : Calls Try.prog 13 #[.agg (sv s).toArray, .agg #[.int .i64 c.fl, .int .i64 c.tg, .int .i64 c.ti, .int .i64 c.d.ph, .int .i64 c.d.le, .int .i64 c.d.ru, .bool c.d.he, .bool c.fa]] w fun e w' => e = .returned (.bool true) ∧ Below w.heap.size w w' := by
  have := cright_any s c w
  rwa [h] at this
theorem cright_f (s : St) (c : Cr) (h : crB s c = false) (w : World) : Calls Try.prog 13 #[.agg (sv s).toArray, .agg #[.int .i64 c.fl, .int .i64 c.tg, .int .i64 c.ti, .int .i64 c.d.ph, .int .i64 c.d.le, .int .i64 c.d.ru, .bool c.d.he, .bool c.fa]] w fun e w' => e = .returned (.bool false) ∧ Below w.heap.size w w' := by
  have := cright_any s c w
  rwa [h] at this
theorem rcright_t (s : St) (c : Cr) (h : crB s c = true) (w : World) : Calls Try.prog 14 #[.agg (sv s).toArray, .agg #[.int .i64 c.fl, .int .i64 c.tg, .int .i64 c.ti, .int .i64 c.d.ph, .int .i64 c.d.le, .int .i64 c.d.ru, .bool c.d.he, .bool c.fa]] w fun e w' => e = .returned (.bool true) ∧ Below w.heap.size w w' := by
  have := rcright_any s c w
  rwa [h] at this
theorem rcright_f (s : St) (c : Cr) (h : crB s c = false) (w : World) : Calls Try.prog 14 #[.agg (sv s).toArray, .agg #[.int .i64 c.fl, .int .i64 c.tg, .int .i64 c.ti, .int .i64 c.d.ph, .int .i64 c.d.le, .int .i64 c.d.ru, .bool c.d.he, .bool c.fa]] w fun e w' => e = .returned (.bool false) ∧ Below w.heap.size w w' := by
  have := rcright_any s c w
  rwa [h] at this

/-- the blocks: the site, two cars -/
structure Bf (w0 W : World) (S : Nat) (s : St) (a b : Cr) : Prop where
  bel : Below w0.heap.size w0 W
  sb : SB W S s
  ab : CB W (S + 1) a
  bb : CB W (S + 1 + 1) b
theorem Bf.new (w : World) (s : St) (a b : Cr) : Bf w (((w.alloc (.cells (sv s).toArray 23)).alloc (.cells #[.int .i64 a.fl, .int .i64 a.tg, .int .i64 a.ti, .int .i64 a.d.ph, .int .i64 a.d.le, .int .i64 a.d.ru, .bool a.d.he, .bool a.fa] 31)).alloc (.cells #[.int .i64 b.fl, .int .i64 b.tg, .int .i64 b.ti, .int .i64 b.d.ph, .int .i64 b.d.le, .int .i64 b.d.ru, .bool b.d.he, .bool b.fa] 31)) w.heap.size s a b :=
  ⟨(((Below.refl _ w).alloc (Nat.le_refl _) _).alloc (by simp) _).alloc (by simp; omega) _, ((SB.new w s).alloc _).alloc _, (CB.new' _ a (by simp)).alloc _, CB.new' _ b (by simp)⟩
theorem Bf.below {w0 W W' : World} {S : Nat} {s : St} {a b : Cr} (h : Bf w0 W S s a b) (hb : Below W.heap.size W W') : Bf w0 W' S s a b :=
  ⟨below_class h.bel hb, h.sb.below' hb, h.ab.below' hb, h.bb.below' hb⟩
theorem Bf.keep {w0 W : World} {S : Nat} {s : St} {a b : Cr} {f : FuncId} {args : Array Value} {R : Ending → Prop} (h : Bf w0 W S s a b)
    (hc : Calls Try.prog f args W fun e w' => R e ∧ Below W.heap.size W w') : Calls Try.prog f args W fun e w' => R e ∧ Bf w0 w' S s a b :=
  hc.mono fun _ _ hh => ⟨hh.1, h.below hh.2⟩

/-- two ways that are one -/
theorem eqW_t (x y : Int) (w : World) : (Op.equalIn 10000 54 (.agg #[.int .i64 x, .int .i64 y]) (.agg #[.int .i64 x, .int .i64 y])).run Try.prog w = .ok true w := by
  have u3 := Try.underlying3
  have uW := Try.underlying54
  go_simp
/-- two ways that aren't -/
theorem eqW_f {x y x' y' : Int} (h : ¬ (x = x' ∧ y = y')) (w : World) : (Op.equalIn 10000 54 (.agg #[.int .i64 x, .int .i64 y]) (.agg #[.int .i64 x', .int .i64 y'])).run Try.prog w = .ok false w := by
  have u3 := Try.underlying3
  have uW := Try.underlying54
  by_cases hx : x = x'
  · subst hx
    have hy : (y == y') = false := by simp only [beq_eq_false_iff_ne]; exact fun e => h ⟨rfl, e⟩
    clear h
    go_simp
  · have hx' : (x == x') = false := by simpa using hx
    clear h hx
    go_simp

set_option maxHeartbeats 4000000 in
theorem csafe_any (s : St) (a b : Cr) (w : World) :
    Calls Try.prog 17 #[.agg (sv s).toArray, .agg #[.int .i64 a.fl, .int .i64 a.tg, .int .i64 a.ti, .int .i64 a.d.ph, .int .i64 a.d.le, .int .i64 a.d.ru, .bool a.d.he, .bool a.fa], .agg #[.int .i64 b.fl, .int .i64 b.tg, .int .i64 b.ti, .int .i64 b.d.ph, .int .i64 b.d.le, .int .i64 b.d.ru, .bool b.d.he, .bool b.fa]] w fun e w' => e = .returned (.bool (sfB s a b)) ∧ Below w.heap.size w w' := by
  have H0 := Hid.intro' (Bf.new w s a b)
  go_enter Try.func17, Try.ntmps17
  go_wp2_with (first | (refine wpList_load23 rfl _ rfl w.heap.size s rfl H0.out.sb ?_) | (refine wpList_loadC rfl _ rfl (w.heap.size + 1) rfl H0.out.ab ?_))
  cases h1 : crB s a
  · refine (H0.out.keep (cright_f s a h1 _)).mono ?_
    rintro e W1 ⟨rfl, hk⟩
    have HB1 := Hid.intro' hk.bel
    have HF := Hid.intro' h1
    clear hk h1 H0
    go_wp2
    go_ret
    exact ⟨ret_boo (sfB_1 HF.out).symm, HB1.out⟩
  · refine (H0.out.keep (cright_t s a h1 _)).mono ?_
    rintro e W1 ⟨rfl, hk⟩
    have H1 := Hid.intro' hk
    have HA := Hid.intro' h1
    clear hk h1 H0
    go_wp2_with (first | (refine wpList_load23g rfl _ rfl w.heap.size s rfl H1.out.sb ?_) | (refine wpList_loadCg rfl _ rfl (w.heap.size + 1 + 1) rfl H1.out.bb ?_))
    cases h2 : crB s b
    · refine (H1.out.keep (cright_f s b h2 _)).mono ?_
      rintro e W2 ⟨rfl, hk⟩
      have HB2 := Hid.intro' hk.bel
      have HF := Hid.intro' h2
      clear hk h2 H1
      go_wp2
      go_ret
      exact ⟨ret_boo (sfB_2 HF.out).symm, HB2.out⟩
    · refine (H1.out.keep (cright_t s b h2 _)).mono ?_
      rintro e W2 ⟨rfl, hk⟩
      have H2 := Hid.intro' hk
      have HW := Hid.intro' (sfB_w HA.out h2)
      obtain ⟨p1, p2⟩ := ((crB_iff s a).1 HA.out).ti_bd
      obtain ⟨q1, q2⟩ := ((crB_iff s b).1 h2).ti_bd
      clear hk h2 H1 HA
      go_wp2_with ((refine wpList_loadC rfl _ rfl (w.heap.size + 1) rfl H2.out.ab ?_))
      by_cases hm : a.ti = 0
      · have HM := Hid.intro' hm
        clear hm
        by_cases hn : b.ti = 0
        · have HN := Hid.intro' hn
          clear hn
          refine (H2.out.keep (moves_f a HM.out _)).mono ?_
          rintro e W3 ⟨rfl, hk⟩
          have H3 := Hid.intro' hk
          clear hk H2
          go_wp2_with (first | (refine wpList_loadC rfl _ rfl (w.heap.size + 1) rfl H3.out.ab ?_) | (refine wpList_loadC rfl _ rfl (w.heap.size + 1 + 1) rfl H3.out.bb ?_) | (refine wpList_loadCg rfl _ rfl (w.heap.size + 1 + 1) rfl H3.out.bb ?_))
          refine (H3.out.keep (moves_f b HN.out _)).mono ?_
          rintro e W5 ⟨rfl, hk⟩
          have H5 := Hid.intro' hk
          clear hk H3
          go_wp2_with (first | (refine wpList_loadC rfl _ rfl (w.heap.size + 1) rfl H5.out.ab ?_) | (refine wpList_loadC rfl _ rfl (w.heap.size + 1 + 1) rfl H5.out.bb ?_) | (refine wpList_loadCg rfl _ rfl (w.heap.size + 1 + 1) rfl H5.out.bb ?_))
          refine (H5.out.keep (moves_f a HM.out _)).mono ?_
          rintro e W6 ⟨rfl, hk⟩
          have H6 := Hid.intro' hk
          clear hk H5
          have a0 := H6.out.ab.c0; have b0 := H6.out.bb.c0
          have a1 := H6.out.ab.c1; have b1 := H6.out.bb.c1
          have a2 := H6.out.ab.c2; have b2 := H6.out.bb.c2
          have a3 := H6.out.ab.c3; have b3 := H6.out.bb.c3
          go_wp2
          clear a0 a1 a2 a3 b0 b1 b2 b3
          go_ret
          refine ⟨ret_boo ?_, H6.out.bel⟩
          rw [HW.out, sfW00 HM.out HN.out]
          rfl
        · have HN := Hid.intro' hn
          clear hn
          refine (H2.out.keep (moves_f a HM.out _)).mono ?_
          rintro e W3 ⟨rfl, hk⟩
          have H3 := Hid.intro' hk
          clear hk H2
          go_wp2_with (first | (refine wpList_loadC rfl _ rfl (w.heap.size + 1) rfl H3.out.ab ?_) | (refine wpList_loadC rfl _ rfl (w.heap.size + 1 + 1) rfl H3.out.bb ?_) | (refine wpList_loadCg rfl _ rfl (w.heap.size + 1 + 1) rfl H3.out.bb ?_))
          refine (H3.out.keep (moves_t b HN.out _)).mono ?_
          rintro e W5 ⟨rfl, hk⟩
          have H5 := Hid.intro' hk
          clear hk H3
          go_wp2_with (first | (refine wpList_loadC rfl _ rfl (w.heap.size + 1) rfl H5.out.ab ?_) | (refine wpList_loadC rfl _ rfl (w.heap.size + 1 + 1) rfl H5.out.bb ?_) | (refine wpList_loadCg rfl _ rfl (w.heap.size + 1 + 1) rfl H5.out.bb ?_))
          refine (H5.out.keep (idle_any a _)).mono ?_
          rintro e W7 ⟨rfl, hk⟩
          have H7 := Hid.intro' hk
          clear hk H5
          generalize hgen : CM.idle a = i
          have a0 := H7.out.ab.c0; have b0 := H7.out.bb.c0
          have a1 := H7.out.ab.c1; have b1 := H7.out.bb.c1
          have a2 := H7.out.ab.c2; have b2 := H7.out.bb.c2
          have a3 := H7.out.ab.c3; have b3 := H7.out.bb.c3
          cases i
          · have HI := Hid.intro' hgen
            clear hgen
            go_wp2
            all_goals
              clear a0 a1 a2 a3 b0 b1 b2 b3
              go_ret
              refine ⟨ret_boo ?_, H7.out.bel⟩
              have hi := HI.out
              have hm := HM.out
              have hn := HN.out
              rw [HW.out, sfW01 hm hn, Bool.eq_iff_iff]
              try simp only [CM.idle] at *
              try simp only [decide_eq_true_eq] at *
              try simp only [decide_eq_false_iff_not] at *
              try simp only [beq_iff_eq] at *
              try simp only [Bool.false_eq_true] at *
              try simp only [beq_eq_false_iff_ne] at *
              try simp only [false_iff] at *
              try simp only [true_iff] at *
              try omega
          · have HI := Hid.intro' hgen
            clear hgen
            go_wp2
            all_goals
              clear a0 a1 a2 a3 b0 b1 b2 b3
              go_ret
              refine ⟨ret_boo ?_, H7.out.bel⟩
              have hi := HI.out
              have hm := HM.out
              have hn := HN.out
              rw [HW.out, sfW01 hm hn, Bool.eq_iff_iff]
              try simp only [CM.idle] at *
              try simp only [decide_eq_true_eq] at *
              try simp only [decide_eq_false_iff_not] at *
              try simp only [beq_iff_eq] at *
              try simp only [Bool.false_eq_true] at *
              try simp only [beq_eq_false_iff_ne] at *
              try simp only [false_iff] at *
              try simp only [true_iff] at *
              try omega
      · have HM := Hid.intro' hm
        clear hm
        by_cases hn : b.ti = 0
        · have HN := Hid.intro' hn
          clear hn
          refine (H2.out.keep (moves_t a HM.out _)).mono ?_
          rintro e W3 ⟨rfl, hk⟩
          have H3 := Hid.intro' hk
          clear hk H2
          go_wp2_with (first | (refine wpList_loadC rfl _ rfl (w.heap.size + 1) rfl H3.out.ab ?_) | (refine wpList_loadC rfl _ rfl (w.heap.size + 1 + 1) rfl H3.out.bb ?_) | (refine wpList_loadCg rfl _ rfl (w.heap.size + 1 + 1) rfl H3.out.bb ?_))
          refine (H3.out.keep (moves_f b HN.out _)).mono ?_
          rintro e W4 ⟨rfl, hk⟩
          have H4 := Hid.intro' hk
          clear hk H3
          go_wp2_with (first | (refine wpList_loadC rfl _ rfl (w.heap.size + 1) rfl H4.out.ab ?_) | (refine wpList_loadC rfl _ rfl (w.heap.size + 1 + 1) rfl H4.out.bb ?_) | (refine wpList_loadCg rfl _ rfl (w.heap.size + 1 + 1) rfl H4.out.bb ?_))
          refine (H4.out.keep (moves_f b HN.out _)).mono ?_
          rintro e W5 ⟨rfl, hk⟩
          have H5 := Hid.intro' hk
          clear hk H4
          go_wp2_with (first | (refine wpList_loadC rfl _ rfl (w.heap.size + 1) rfl H5.out.ab ?_) | (refine wpList_loadC rfl _ rfl (w.heap.size + 1 + 1) rfl H5.out.bb ?_) | (refine wpList_loadCg rfl _ rfl (w.heap.size + 1 + 1) rfl H5.out.bb ?_))
          refine (H5.out.keep (moves_t a HM.out _)).mono ?_
          rintro e W6 ⟨rfl, hk⟩
          have H6 := Hid.intro' hk
          clear hk H5
          go_wp2_with (first | (refine wpList_loadC rfl _ rfl (w.heap.size + 1) rfl H6.out.ab ?_) | (refine wpList_loadC rfl _ rfl (w.heap.size + 1 + 1) rfl H6.out.bb ?_) | (refine wpList_loadCg rfl _ rfl (w.heap.size + 1 + 1) rfl H6.out.bb ?_))
          refine (H6.out.keep (idle_any b _)).mono ?_
          rintro e W7 ⟨rfl, hk⟩
          have H7 := Hid.intro' hk
          clear hk H6
          generalize hgen : CM.idle b = i
          have a0 := H7.out.ab.c0; have b0 := H7.out.bb.c0
          have a1 := H7.out.ab.c1; have b1 := H7.out.bb.c1
          have a2 := H7.out.ab.c2; have b2 := H7.out.bb.c2
          have a3 := H7.out.ab.c3; have b3 := H7.out.bb.c3
          cases i
          · have HI := Hid.intro' hgen
            clear hgen
            go_wp2
            all_goals
              clear a0 a1 a2 a3 b0 b1 b2 b3
              go_ret
              refine ⟨ret_boo ?_, H7.out.bel⟩
              have hi := HI.out
              have hm := HM.out
              have hn := HN.out
              rw [HW.out, sfW10 hm hn, Bool.eq_iff_iff]
              try simp only [CM.idle] at *
              try simp only [decide_eq_true_eq] at *
              try simp only [decide_eq_false_iff_not] at *
              try simp only [beq_iff_eq] at *
              try simp only [Bool.false_eq_true] at *
              try simp only [beq_eq_false_iff_ne] at *
              try simp only [false_iff] at *
              try simp only [true_iff] at *
              try omega
          · have HI := Hid.intro' hgen
            clear hgen
            go_wp2
            all_goals
              clear a0 a1 a2 a3 b0 b1 b2 b3
              go_ret
              refine ⟨ret_boo ?_, H7.out.bel⟩
              have hi := HI.out
              have hm := HM.out
              have hn := HN.out
              rw [HW.out, sfW10 hm hn, Bool.eq_iff_iff]
              try simp only [CM.idle] at *
              try simp only [decide_eq_true_eq] at *
              try simp only [decide_eq_false_iff_not] at *
              try simp only [beq_iff_eq] at *
              try simp only [Bool.false_eq_true] at *
              try simp only [beq_eq_false_iff_ne] at *
              try simp only [false_iff] at *
              try simp only [true_iff] at *
              try omega
        · have HN := Hid.intro' hn
          clear hn
          refine (H2.out.keep (moves_t a HM.out _)).mono ?_
          rintro e W3 ⟨rfl, hk⟩
          have H3 := Hid.intro' hk
          clear hk H2
          go_wp2_with (first | (refine wpList_loadC rfl _ rfl (w.heap.size + 1) rfl H3.out.ab ?_) | (refine wpList_loadC rfl _ rfl (w.heap.size + 1 + 1) rfl H3.out.bb ?_) | (refine wpList_loadCg rfl _ rfl (w.heap.size + 1 + 1) rfl H3.out.bb ?_))
          refine (H3.out.keep (moves_t b HN.out _)).mono ?_
          rintro e W4 ⟨rfl, hk⟩
          have H4 := Hid.intro' hk
          clear hk H3
          go_wp2_with fail
          have ha : ∀ w', Below W4.heap.size W4 w' → CB w' (w.heap.size + 1) a := fun w' h' => H4.out.ab.below' h'
          have hb : ∀ w', Below W4.heap.size W4 w' → CB w' (w.heap.size + 1 + 1) b := fun w' h' => H4.out.bb.below' h'
          have qa : ∀ w', Below W4.heap.size W4 w' → w'.cell? ⟨w.heap.size + 1, 2, none⟩ = some (.int .i64 a.ti) := fun w' h' => (H4.out.ab.below' h').c2
          have qb : ∀ w', Below W4.heap.size W4 w' → w'.cell? ⟨w.heap.size + 1 + 1, 2, none⟩ = some (.int .i64 b.ti) := fun w' h' => (H4.out.bb.below' h').c2
          refine wp_region_quiet (C := fun w' => Below W4.heap.size W4 w') (by kernel_rfl) (by kernel_rfl) ((Below.refl _ W4).drew) ?_
          simp only []
          by_cases hw : a.fl = b.fl ∧ a.tg = b.tg
          · have eqw : ∀ W, (Op.equalIn 10000 54 (.agg #[.int .i64 a.fl, .int .i64 a.tg]) (.agg #[.int .i64 b.fl, .int .i64 b.tg])).run Try.prog W = .ok true W := fun W => by rw [hw.1, hw.2]; exact eqW_t _ _ W
            have HX := Hid.intro' hw
            clear hw
            unfold wpQuiet
            generalize hK : wpQuiet Try.prog _ _ _ _ = K
            rw [if_pos (by go_simp)]
            refine quiet_loadC _ (w.heap.size + 1) rfl rfl ha ?_
            go_simp
            subst hK
            unfold wpQuiet
            generalize hK : wpQuiet Try.prog _ _ _ _ = K
            go_simp
            refine ⟨_, fun w' hw => (wayOf_any a w').mono fun e w'' hh => ⟨hh.1, below_class hw hh.2⟩, ?_⟩
            subst hK
            unfold wpQuiet
            generalize hK : wpQuiet Try.prog _ _ _ _ = K
            rw [if_pos (by go_simp)]
            refine quiet_loadC _ (w.heap.size + 1 + 1) rfl rfl hb ?_
            go_simp
            subst hK
            unfold wpQuiet
            generalize hK : wpQuiet Try.prog _ _ _ _ = K
            go_simp
            refine ⟨_, fun w' hw => (wayOf_any b w').mono fun e w'' hh => ⟨hh.1, below_class hw hh.2⟩, ?_⟩
            subst hK
            unfold wpQuiet
            generalize hK : wpQuiet Try.prog _ _ _ _ = K
            go_simp
            refine ⟨_, fun _ _ => rfl, ?_⟩
            subst hK
            unfold wpQuiet
            generalize hK : wpQuiet Try.prog _ _ _ _ = K
            go_simp
            refine ⟨_, fun _ _ => rfl, ?_⟩
            subst hK
            unfold wpQuiet
            generalize hK : wpQuiet Try.prog _ _ _ _ = K
            go_simp
            refine ⟨_, fun _ _ => rfl, ?_⟩
            subst hK
            unfold wpQuiet
            generalize hK : wpQuiet Try.prog _ _ _ _ = K
            rw [if_pos (by go_simp)]
            refine quiet_load3 _ _ _ rfl rfl qa ?_
            go_simp
            subst hK
            unfold wpQuiet
            generalize hK : wpQuiet Try.prog _ _ _ _ = K
            go_simp
            refine ⟨_, fun _ _ => rfl, ?_⟩
            subst hK
            unfold wpQuiet
            generalize hK : wpQuiet Try.prog _ _ _ _ = K
            go_simp
            refine ⟨_, fun _ _ => rfl, ?_⟩
            subst hK
            unfold wpQuiet
            generalize hK : wpQuiet Try.prog _ _ _ _ = K
            rw [if_pos (by go_simp)]
            refine quiet_load3 _ _ _ rfl rfl qb ?_
            go_simp
            subst hK
            unfold wpQuiet
            generalize hK : wpQuiet Try.prog _ _ _ _ = K
            go_simp
            refine ⟨_, fun _ _ => rfl, ?_⟩
            subst hK
            unfold wpQuiet
            generalize hK : wpQuiet Try.prog _ _ _ _ = K
            go_simp
            refine ⟨_, fun _ _ => rfl, ?_⟩
            subst hK
            unfold wpQuiet
            generalize hK : wpQuiet Try.prog _ _ _ _ = K
            go_simp
            refine ⟨_, fun _ _ => rfl, ?_⟩
            subst hK
            refine wpQuiet_nil ?_
            intro W5 hb5
            have HB5 := Hid.intro' (below_class H4.out.bel hb5)
            clear hb5 ha hb qa qb eqw
            go_wp2
            go_ret
            refine ⟨ret_boo ?_, HB5.out⟩
            rw [HW.out, sfW11 HM.out HN.out]
            rw [IntWalk.i64_in _ ⟨by omega, by omega⟩, Bool.eq_iff_iff]
            have := HX.out
            simp only [decide_eq_true_eq, beq_iff_eq]
            omega
          · have eqw : ∀ W, (Op.equalIn 10000 54 (.agg #[.int .i64 a.fl, .int .i64 a.tg]) (.agg #[.int .i64 b.fl, .int .i64 b.tg])).run Try.prog W = .ok false W := fun W => eqW_f hw W
            have HX := Hid.intro' hw
            clear hw
            unfold wpQuiet
            generalize hK : wpQuiet Try.prog _ _ _ _ = K
            rw [if_pos (by go_simp)]
            refine quiet_loadC _ (w.heap.size + 1) rfl rfl ha ?_
            go_simp
            subst hK
            unfold wpQuiet
            generalize hK : wpQuiet Try.prog _ _ _ _ = K
            go_simp
            refine ⟨_, fun w' hw => (wayOf_any a w').mono fun e w'' hh => ⟨hh.1, below_class hw hh.2⟩, ?_⟩
            subst hK
            unfold wpQuiet
            generalize hK : wpQuiet Try.prog _ _ _ _ = K
            rw [if_pos (by go_simp)]
            refine quiet_loadC _ (w.heap.size + 1 + 1) rfl rfl hb ?_
            go_simp
            subst hK
            unfold wpQuiet
            generalize hK : wpQuiet Try.prog _ _ _ _ = K
            go_simp
            refine ⟨_, fun w' hw => (wayOf_any b w').mono fun e w'' hh => ⟨hh.1, below_class hw hh.2⟩, ?_⟩
            subst hK
            unfold wpQuiet
            generalize hK : wpQuiet Try.prog _ _ _ _ = K
            go_simp
            refine ⟨_, fun _ _ => rfl, ?_⟩
            subst hK
            unfold wpQuiet
            generalize hK : wpQuiet Try.prog _ _ _ _ = K
            go_simp
            refine ⟨_, fun _ _ => rfl, ?_⟩
            subst hK
            unfold wpQuiet
            generalize hK : wpQuiet Try.prog _ _ _ _ = K
            go_simp
            subst hK
            unfold wpQuiet
            generalize hK : wpQuiet Try.prog _ _ _ _ = K
            go_simp
            subst hK
            unfold wpQuiet
            generalize hK : wpQuiet Try.prog _ _ _ _ = K
            go_simp
            subst hK
            unfold wpQuiet
            generalize hK : wpQuiet Try.prog _ _ _ _ = K
            go_simp
            subst hK
            unfold wpQuiet
            generalize hK : wpQuiet Try.prog _ _ _ _ = K
            go_simp
            subst hK
            unfold wpQuiet
            generalize hK : wpQuiet Try.prog _ _ _ _ = K
            go_simp
            subst hK
            unfold wpQuiet
            generalize hK : wpQuiet Try.prog _ _ _ _ = K
            go_simp
            refine ⟨_, fun _ _ => rfl, ?_⟩
            subst hK
            unfold wpQuiet
            generalize hK : wpQuiet Try.prog _ _ _ _ = K
            go_simp
            refine ⟨_, fun _ _ => rfl, ?_⟩
            subst hK
            refine wpQuiet_nil ?_
            intro W5 hb5
            have HB5 := Hid.intro' (below_class H4.out.bel hb5)
            clear hb5 ha hb qa qb eqw
            go_wp2
            go_ret
            refine ⟨ret_boo ?_, HB5.out⟩
            rw [HW.out, sfW11 HM.out HN.out]
            symm; rw [decide_eq_false_iff_not]
            have := HX.out
            omega

set_option maxHeartbeats 4000000 in
theorem rcsafe_any (s : St) (a b : Cr) (w : World) :
    Calls Try.prog 19 #[.agg (sv s).toArray, .agg #[.int .i64 a.fl, .int .i64 a.tg, .int .i64 a.ti, .int .i64 a.d.ph, .int .i64 a.d.le, .int .i64 a.d.ru, .bool a.d.he, .bool a.fa], .agg #[.int .i64 b.fl, .int .i64 b.tg, .int .i64 b.ti, .int .i64 b.d.ph, .int .i64 b.d.le, .int .i64 b.d.ru, .bool b.d.he, .bool b.fa]] w fun e w' => e = .returned (.bool (sfB s a b)) ∧ Below w.heap.size w w' := by
  have H0 := Hid.intro' (Bf.new w s a b)
  go_enter Try.func19, Try.ntmps19
  go_wp2_with (first | (refine wpList_load23 rfl _ rfl w.heap.size s rfl H0.out.sb ?_) | (refine wpList_loadC rfl _ rfl (w.heap.size + 1) rfl H0.out.ab ?_))
  cases h1 : crB s a
  · refine (H0.out.keep (rcright_f s a h1 _)).mono ?_
    rintro e W1 ⟨rfl, hk⟩
    have HB1 := Hid.intro' hk.bel
    have HF := Hid.intro' h1
    clear hk h1 H0
    go_wp2
    go_ret
    exact ⟨ret_boo (sfB_1 HF.out).symm, HB1.out⟩
  · refine (H0.out.keep (rcright_t s a h1 _)).mono ?_
    rintro e W1 ⟨rfl, hk⟩
    have H1 := Hid.intro' hk
    have HA := Hid.intro' h1
    clear hk h1 H0
    go_wp2_with (first | (refine wpList_load23g rfl _ rfl w.heap.size s rfl H1.out.sb ?_) | (refine wpList_loadCg rfl _ rfl (w.heap.size + 1 + 1) rfl H1.out.bb ?_))
    cases h2 : crB s b
    · refine (H1.out.keep (rcright_f s b h2 _)).mono ?_
      rintro e W2 ⟨rfl, hk⟩
      have HB2 := Hid.intro' hk.bel
      have HF := Hid.intro' h2
      clear hk h2 H1
      go_wp2
      go_ret
      exact ⟨ret_boo (sfB_2 HF.out).symm, HB2.out⟩
    · refine (H1.out.keep (rcright_t s b h2 _)).mono ?_
      rintro e W2 ⟨rfl, hk⟩
      have H2 := Hid.intro' hk
      have HW := Hid.intro' (sfB_w HA.out h2)
      obtain ⟨p1, p2⟩ := ((crB_iff s a).1 HA.out).ti_bd
      obtain ⟨q1, q2⟩ := ((crB_iff s b).1 h2).ti_bd
      clear hk h2 H1 HA
      have a0 := H2.out.ab.c0; have b0 := H2.out.bb.c0
      have a1 := H2.out.ab.c1; have b1 := H2.out.bb.c1
      have a2 := H2.out.ab.c2; have b2 := H2.out.bb.c2
      have a3 := H2.out.ab.c3; have b3 := H2.out.bb.c3
      go_wp2
      all_goals
        clear a0 a1 a2 a3 b0 b1 b2 b3
        go_ret
        refine ⟨ret_boo ?_, H2.out.bel⟩
        rw [HW.out]
        unfold sfW
        by_cases hm : a.ti = 0 <;> by_cases hn : b.ti = 0
        all_goals
          first | rw [if_pos hn] | rw [if_neg (fun h => h hn)]
          first | rw [if_pos hm] | rw [if_neg (fun h => h hm)]
          rw [Bool.eq_iff_iff]
          try simp only [decide_eq_true_eq] at *
          try simp only [decide_eq_false_iff_not] at *
          try simp only [beq_iff_eq] at *
          try simp only [Bool.false_eq_true] at *
          try simp only [beq_eq_false_iff_ne] at *
          try simp only [false_iff] at *
          try simp only [true_iff] at *
          try omega

end Go.Proofs.Ytjcccdlhdffbdac
