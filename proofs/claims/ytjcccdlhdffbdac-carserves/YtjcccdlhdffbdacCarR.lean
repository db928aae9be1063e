/- Which cars may be, as the program tells it and as the document's answer does. -/
import Derived.Test.YtjcccdlhdffbdacCarC
import Derived.Test.YtjcccdlhdffbdacDoorR
import Derived.Test.YtjcccdlhdffbdacSiteT
import Derived.Test.YtjcccdlhdffbdacSiteR
namespace Go.Proofs.Ytjcccdlhdffbdac
open Go.RowKit

/-- whether a car may be, where its door and its floors may -/
def crW (s : St) (c : Cr) : Bool := if c.ti = 0 then decide (c.tg = c.fl) else decide (c.tg ≠ c.fl ∧ 1 ≤ c.ti ∧ c.ti ≤ SM.trav s c.fl c.tg ∧ c.d.ph = 0)
/-- a right car, as a Boolean -/
def crB (s : St) (c : Cr) : Bool := drB s c.d.ph c.d.le c.d.ru c.d.he && CM.has s c.fl && CM.has s c.tg && crW s c
theorem drB_rt {s : St} {d : Dr} (h : drB s d.ph d.le d.ru d.he = true) : SM.Rt s ∧ DM.Rd s d := by
  unfold drB at h
  rw [Bool.and_eq_true] at h
  exact ⟨(rightB_iff s).1 h.1, (rdB_iff s d).1 h.2⟩
theorem drB_of {s : St} (R : SM.Rt s) {d : Dr} (h : DM.Rd s d) : drB s d.ph d.le d.ru d.he = true := by
  rw [drB_t R]; exact (rdB_iff s d).2 h
theorem has_iff {s : St} {f : Int} : CM.has s f = true ↔ 0 ≤ f ∧ f < s.fl := by unfold CM.has; exact decide_eq_true_iff
theorem crB_iff (s : St) (c : Cr) : crB s c = true ↔ CM.Rc s c := by
  unfold crB
  rw [Bool.and_eq_true, Bool.and_eq_true, Bool.and_eq_true, has_iff, has_iff]
  constructor
  · rintro ⟨⟨⟨h1, h2⟩, h3⟩, h4⟩
    have hr := drB_rt h1
    unfold crW at h4
    refine ⟨hr.1, hr.2, h2.1, h2.2, h3.1, h3.2, fun h0 => ?_, fun h0 => ?_⟩
    · rw [if_pos h0] at h4
      exact of_decide_eq_true h4
    · rw [if_neg h0] at h4
      obtain ⟨a, b, c', d⟩ := of_decide_eq_true h4
      exact ⟨a, b, c', CM.rd0 hr.2 d⟩
  · intro h
    refine ⟨⟨⟨drB_of h.rs h.rd, h.f1, h.f2⟩, h.t1, h.t2⟩, ?_⟩
    unfold crW
    split
    · rename_i h0
      exact decide_eq_true (h.st h0)
    · rename_i h0
      obtain ⟨a, b, c', d⟩ := h.mo h0
      exact decide_eq_true ⟨a, b, c', by rw [d]; rfl⟩
theorem crB_true {s : St} {c : Cr} (h : CM.Rc s c) : crB s c = true := (crB_iff s c).2 h
theorem crB_d {s : St} {c : Cr} (h : drB s c.d.ph c.d.le c.d.ru c.d.he = false) : crB s c = false := by unfold crB; rw [h]; rfl
theorem crB_f {s : St} {c : Cr} (h : CM.has s c.fl = false) : crB s c = false := by unfold crB; rw [h, Bool.and_false]; rfl
theorem crB_t {s : St} {c : Cr} (h : CM.has s c.tg = false) : crB s c = false := by unfold crB; rw [h, Bool.and_false]; rfl
theorem crB_w {s : St} {c : Cr} (h1 : drB s c.d.ph c.d.le c.d.ru c.d.he = true) (h2 : CM.has s c.fl = true) (h3 : CM.has s c.tg = true) : crB s c = crW s c := by unfold crB; rw [h1, h2, h3]; rfl
theorem crW0 {s : St} {c : Cr} (h : c.ti = 0) : crW s c = decide (c.tg = c.fl) := by unfold crW; rw [if_pos h]
theorem crW1 {s : St} {c : Cr} (h : c.ti ≠ 0) : crW s c = decide (c.tg ≠ c.fl ∧ 1 ≤ c.ti ∧ c.ti ≤ SM.trav s c.fl c.tg ∧ c.d.ph = 0) := by unfold crW; rw [if_neg h]

set_option maxHeartbeats 4000000 in
theorem cright_any (s : St) (c : Cr) (w : World) :
    Calls Try.prog 13 #[.agg (sv s).toArray, .agg #[.int .i64 c.fl, .int .i64 c.tg, .int .i64 c.ti, .int .i64 c.d.ph, .int .i64 c.d.le, .int .i64 c.d.ru, .bool c.d.he, .bool c.fa]] w fun e w' => e = .returned (.bool (crB s c)) ∧ Below w.heap.size w w' := by
  go_enter Try.func13, Try.ntmps13
  go_wp2_with (first | (refine wpList_load23 rfl _ rfl w.heap.size s rfl ((SB.new w s).alloc _) ?_) | (refine wpList_loadM rfl _ rfl (w.heap.size + 1) rfl (CB.new' _ c (by simp)) ?_))
  cases hdr : drB s c.d.ph c.d.le c.d.ru c.d.he
  · have c1 := dright_any s c.d.ph c.d.le c.d.ru c.d.he ((w.alloc (.cells (sv s).toArray 23)).alloc (.cells #[.int .i64 c.fl, .int .i64 c.tg, .int .i64 c.ti, .int .i64 c.d.ph, .int .i64 c.d.le, .int .i64 c.d.ru, .bool c.d.he, .bool c.fa] 31))
    rw [hdr] at c1
    refine (calls_keepC (bs := w.heap.size) (bc := w.heap.size + 1) c1 (((Below.refl _ w).alloc (Nat.le_refl _) _).alloc (by simp) _) ((SB.new w s).alloc _) (CB.new' _ c (by simp))).mono ?_
    rintro e W1 ⟨rfl, hB, _, _⟩
    have HB1 := Hid.intro' hB
    have HD := Hid.intro' hdr
    clear hB c1 hdr
    go_wp2
    go_ret
    exact ⟨ret_boo (crB_d HD.out).symm, HB1.out⟩
  · have c1 := dright_any s c.d.ph c.d.le c.d.ru c.d.he ((w.alloc (.cells (sv s).toArray 23)).alloc (.cells #[.int .i64 c.fl, .int .i64 c.tg, .int .i64 c.ti, .int .i64 c.d.ph, .int .i64 c.d.le, .int .i64 c.d.ru, .bool c.d.he, .bool c.fa] 31))
    rw [hdr] at c1
    refine (calls_keepC (bs := w.heap.size) (bc := w.heap.size + 1) c1 (((Below.refl _ w).alloc (Nat.le_refl _) _).alloc (by simp) _) ((SB.new w s).alloc _) (CB.new' _ c (by simp))).mono ?_
    rintro e W1 ⟨rfl, hB, hs1, hc1⟩
    have HB1 := Hid.intro' hB
    have HS1 := Hid.intro' hs1
    have HC1 := Hid.intro' hc1
    have HD := Hid.intro' hdr
    have HR := Hid.intro' (drB_rt hdr).1
    clear hB c1 hs1 hc1 hdr
    have a0 := HC1.out.c0
    go_wp2_with (refine wpList_load23g rfl _ rfl w.heap.size s rfl HS1.out ?_)
    clear a0
    cases hf : CM.has s c.fl
    · refine (has_f s _ hf _).mono ?_
      rintro e W2 ⟨rfl, hb⟩
      have HB2 := Hid.intro' (below_class HB1.out hb)
      have HF := Hid.intro' hf
      clear hb hf HB1 HS1 HC1
      go_wp2
      go_ret
      exact ⟨ret_boo (crB_f HF.out).symm, HB2.out⟩
    · refine (calls_keepC (has_t s _ hf _) HB1.out HS1.out HC1.out).mono ?_
      rintro e W2 ⟨rfl, hB, hs1, hc1⟩
      have HB2 := Hid.intro' hB
      have HS2 := Hid.intro' hs1
      have HC2 := Hid.intro' hc1
      have HF := Hid.intro' hf
      clear hB hs1 hc1 hf HB1 HS1 HC1
      have a1 := HC2.out.c1
      go_wp2_with (refine wpList_load23g rfl _ rfl w.heap.size s rfl HS2.out ?_)
      clear a1
      cases ht : CM.has s c.tg
      · refine (has_f s _ ht _).mono ?_
        rintro e W3 ⟨rfl, hb⟩
        have HB3 := Hid.intro' (below_class HB2.out hb)
        have HT := Hid.intro' ht
        clear hb ht HB2 HS2 HC2
        go_wp2
        go_ret
        exact ⟨ret_boo (crB_t HT.out).symm, HB3.out⟩
      · refine (calls_keepC (has_t s _ ht _) HB2.out HS2.out HC2.out).mono ?_
        rintro e W2' ⟨rfl, hB, hs1, hc1⟩
        have HBx := Hid.intro' hB
        have HSx := Hid.intro' hs1
        have HCx := Hid.intro' hc1
        have HW := Hid.intro' (crB_w HD.out HF.out ht)
        clear hB hs1 hc1 ht HB2 HS2 HC2
        go_wp2_with (refine wpList_loadC rfl _ rfl (w.heap.size + 1) rfl HCx.out ?_)
        by_cases hm : c.ti = 0
        · refine (calls_keepC (moves_f c hm _) HBx.out HSx.out HCx.out).mono ?_
          rintro e W3 ⟨rfl, hB, hs1, hc1⟩
          have HB3 := Hid.intro' hB
          have a0 := hc1.c0; have a1 := hc1.c1
          have HM := Hid.intro' hm
          clear hB hs1 hc1 hm HBx HSx HCx
          go_wp2
          go_ret
          refine ⟨ret_boo ?_, HB3.out⟩
          rw [HW.out, crW0 HM.out]
          rfl
        · refine (calls_keepC (moves_t c hm _) HBx.out HSx.out HCx.out).mono ?_
          rintro e W3 ⟨rfl, hB, hs1, hc1⟩
          have HB3 := Hid.intro' hB
          have HS3 := Hid.intro' hs1
          have HC3 := Hid.intro' hc1
          have HM := Hid.intro' hm
          clear hB hs1 hc1 hm HBx HSx HCx
          go_wp2_with fail
          have hs : ∀ w', Below W3.heap.size W3 w' → SB w' w.heap.size s := fun w' h' => HS3.out.below' h'
          have hc : ∀ w', Below W3.heap.size W3 w' → CB w' (w.heap.size + 1) c := fun w' h' => HC3.out.below' h'
          have q0 : ∀ w', Below W3.heap.size W3 w' → w'.cell? ⟨w.heap.size + 1, 0, none⟩ = some (.int .i64 c.fl) := fun w' h' => (HC3.out.below' h').c0
          have q1 : ∀ w', Below W3.heap.size W3 w' → w'.cell? ⟨w.heap.size + 1, 1, none⟩ = some (.int .i64 c.tg) := fun w' h' => (HC3.out.below' h').c1
          have q2 : ∀ w', Below W3.heap.size W3 w' → w'.cell? ⟨w.heap.size + 1, 2, none⟩ = some (.int .i64 c.ti) := fun w' h' => (HC3.out.below' h').c2
          have q3 : ∀ w', Below W3.heap.size W3 w' → w'.cell? ⟨w.heap.size + 1, 3, none⟩ = some (.int .i64 c.d.ph) := fun w' h' => (HC3.out.below' h').c3
          refine wp_region_quiet (C := fun w' => Below W3.heap.size W3 w') (by kernel_rfl) (by kernel_rfl) ((Below.refl _ W3).drew) ?_
          simp only []
          rcases Bool.eq_false_or_eq_true (c.tg != c.fl) with k1 | k1
          · rcases Bool.eq_false_or_eq_true (decide (1 ≤ c.ti)) with k2 | k2
            · rcases Bool.eq_false_or_eq_true (decide (c.ti ≤ SM.trav s c.fl c.tg)) with k3 | k3
              · unfold wpQuiet
                generalize hK : wpQuiet Try.prog _ _ _ _ = K
                go_simp
                refine ⟨_, fun _ _ => rfl, ?_⟩
                subst hK
                unfold wpQuiet
                generalize hK : wpQuiet Try.prog _ _ _ _ = K
                rw [if_pos (by go_simp)]
                refine quiet_load3 _ _ _ rfl rfl q1 ?_
                go_simp
                subst hK
                unfold wpQuiet
                generalize hK : wpQuiet Try.prog _ _ _ _ = K
                go_simp
                refine ⟨_, fun _ _ => rfl, ?_⟩
                subst hK
                unfold wpQuiet
                generalize hK : wpQuiet Try.prog _ _ _ _ = K
                rw [if_pos (by go_simp)]
                refine quiet_load3 _ _ _ rfl rfl q0 ?_
                go_simp
                subst hK
                unfold wpQuiet
                generalize hK : wpQuiet Try.prog _ _ _ _ = K
                go_simp
                refine ⟨_, fun _ _ => rfl, ?_⟩
                subst hK
                unfold wpQuiet
                generalize hK : wpQuiet Try.prog _ _ _ _ = K
                go_simp
                refine ⟨_, fun _ _ => rfl, ?_⟩
                subst hK
                unfold wpQuiet
                generalize hK : wpQuiet Try.prog _ _ _ _ = K
                go_simp
                refine ⟨_, fun _ _ => rfl, ?_⟩
                subst hK
                unfold wpQuiet
                generalize hK : wpQuiet Try.prog _ _ _ _ = K
                rw [if_pos (by go_simp)]
                refine quiet_load3 _ _ _ rfl rfl q2 ?_
                go_simp
                subst hK
                unfold wpQuiet
                generalize hK : wpQuiet Try.prog _ _ _ _ = K
                go_simp
                refine ⟨_, fun _ _ => rfl, ?_⟩
                subst hK
                unfold wpQuiet
                generalize hK : wpQuiet Try.prog _ _ _ _ = K
                go_simp
                refine ⟨_, fun _ _ => rfl, ?_⟩
                subst hK
                unfold wpQuiet
                generalize hK : wpQuiet Try.prog _ _ _ _ = K
                go_simp
                refine ⟨_, fun _ _ => rfl, ?_⟩
                subst hK
                unfold wpQuiet
                generalize hK : wpQuiet Try.prog _ _ _ _ = K
                go_simp
                refine ⟨_, fun _ _ => rfl, ?_⟩
                subst hK
                unfold wpQuiet
                generalize hK : wpQuiet Try.prog _ _ _ _ = K
                rw [if_pos (by go_simp)]
                refine quiet_load3 _ _ _ rfl rfl q2 ?_
                go_simp
                subst hK
                unfold wpQuiet
                generalize hK : wpQuiet Try.prog _ _ _ _ = K
                rw [if_pos (by go_simp)]
                refine quiet_load23 _ w.heap.size s rfl rfl hs ?_
                go_simp
                subst hK
                unfold wpQuiet
                generalize hK : wpQuiet Try.prog _ _ _ _ = K
                go_simp
                refine ⟨_, fun _ _ => rfl, ?_⟩
                subst hK
                unfold wpQuiet
                generalize hK : wpQuiet Try.prog _ _ _ _ = K
                rw [if_pos (by go_simp)]
                refine quiet_load3 _ _ _ rfl rfl q0 ?_
                go_simp
                subst hK
                unfold wpQuiet
                generalize hK : wpQuiet Try.prog _ _ _ _ = K
                go_simp
                refine ⟨_, fun _ _ => rfl, ?_⟩
                subst hK
                unfold wpQuiet
                generalize hK : wpQuiet Try.prog _ _ _ _ = K
                rw [if_pos (by go_simp)]
                refine quiet_load3 _ _ _ rfl rfl q1 ?_
                go_simp
                subst hK
                unfold wpQuiet
                generalize hK : wpQuiet Try.prog _ _ _ _ = K
                go_simp
                refine ⟨_, fun w' hw => (travel_any s HR.out _ _ w').mono fun e w'' hh => ⟨hh.1, below_class hw hh.2⟩, ?_⟩
                subst hK
                unfold wpQuiet
                generalize hK : wpQuiet Try.prog _ _ _ _ = K
                go_simp
                refine ⟨_, fun _ _ => rfl, ?_⟩
                subst hK
                unfold wpQuiet
                generalize hK : wpQuiet Try.prog _ _ _ _ = K
                go_simp
                refine ⟨_, fun _ _ => rfl, ?_⟩
                subst hK
                unfold wpQuiet
                generalize hK : wpQuiet Try.prog _ _ _ _ = K
                go_simp
                refine ⟨_, fun _ _ => rfl, ?_⟩
                subst hK
                unfold wpQuiet
                generalize hK : wpQuiet Try.prog _ _ _ _ = K
                rw [if_pos (by go_simp)]
                refine quiet_loadC _ (w.heap.size + 1) rfl rfl hc ?_
                go_simp
                subst hK
                unfold wpQuiet
                generalize hK : wpQuiet Try.prog _ _ _ _ = K
                go_simp
                refine ⟨_, fun w' hw => (isShutC_any c w').mono fun e w'' hh => ⟨hh.1, below_class hw hh.2⟩, ?_⟩
                subst hK
                unfold wpQuiet
                generalize hK : wpQuiet Try.prog _ _ _ _ = K
                go_simp
                refine ⟨_, fun _ _ => rfl, ?_⟩
                subst hK
                unfold wpQuiet
                generalize hK : wpQuiet Try.prog _ _ _ _ = K
                go_simp
                refine ⟨_, fun _ _ => rfl, ?_⟩
                subst hK
                refine wpQuiet_nil ?_
                intro W5 hb
                have HB5 := Hid.intro' (below_class HB3.out hb)
                clear hb hs hc q0 q1 q2 q3
                go_wp2
                go_ret
                refine ⟨ret_boo ?_, HB5.out⟩
                rw [HW.out, crW1 HM.out]
                simp only [decide_eq_true_eq, bne_iff_ne, ne_eq] at k1 k2 k3
                by_cases hp : c.d.ph = 0 <;> simp [hp, k1, k2, k3]
              · unfold wpQuiet
                generalize hK : wpQuiet Try.prog _ _ _ _ = K
                go_simp
                refine ⟨_, fun _ _ => rfl, ?_⟩
                subst hK
                unfold wpQuiet
                generalize hK : wpQuiet Try.prog _ _ _ _ = K
                rw [if_pos (by go_simp)]
                refine quiet_load3 _ _ _ rfl rfl q1 ?_
                go_simp
                subst hK
                unfold wpQuiet
                generalize hK : wpQuiet Try.prog _ _ _ _ = K
                go_simp
                refine ⟨_, fun _ _ => rfl, ?_⟩
                subst hK
                unfold wpQuiet
                generalize hK : wpQuiet Try.prog _ _ _ _ = K
                rw [if_pos (by go_simp)]
                refine quiet_load3 _ _ _ rfl rfl q0 ?_
                go_simp
                subst hK
                unfold wpQuiet
                generalize hK : wpQuiet Try.prog _ _ _ _ = K
                go_simp
                refine ⟨_, fun _ _ => rfl, ?_⟩
                subst hK
                unfold wpQuiet
                generalize hK : wpQuiet Try.prog _ _ _ _ = K
                go_simp
                refine ⟨_, fun _ _ => rfl, ?_⟩
                subst hK
                unfold wpQuiet
                generalize hK : wpQuiet Try.prog _ _ _ _ = K
                go_simp
                refine ⟨_, fun _ _ => rfl, ?_⟩
                subst hK
                unfold wpQuiet
                generalize hK : wpQuiet Try.prog _ _ _ _ = K
                rw [if_pos (by go_simp)]
                refine quiet_load3 _ _ _ rfl rfl q2 ?_
                go_simp
                subst hK
                unfold wpQuiet
                generalize hK : wpQuiet Try.prog _ _ _ _ = K
                go_simp
                refine ⟨_, fun _ _ => rfl, ?_⟩
                subst hK
                unfold wpQuiet
                generalize hK : wpQuiet Try.prog _ _ _ _ = K
                go_simp
                refine ⟨_, fun _ _ => rfl, ?_⟩
                subst hK
                unfold wpQuiet
                generalize hK : wpQuiet Try.prog _ _ _ _ = K
                go_simp
                refine ⟨_, fun _ _ => rfl, ?_⟩
                subst hK
                unfold wpQuiet
                generalize hK : wpQuiet Try.prog _ _ _ _ = K
                go_simp
                refine ⟨_, fun _ _ => rfl, ?_⟩
                subst hK
                unfold wpQuiet
                generalize hK : wpQuiet Try.prog _ _ _ _ = K
                rw [if_pos (by go_simp)]
                refine quiet_load3 _ _ _ rfl rfl q2 ?_
                go_simp
                subst hK
                unfold wpQuiet
                generalize hK : wpQuiet Try.prog _ _ _ _ = K
                rw [if_pos (by go_simp)]
                refine quiet_load23 _ w.heap.size s rfl rfl hs ?_
                go_simp
                subst hK
                unfold wpQuiet
                generalize hK : wpQuiet Try.prog _ _ _ _ = K
                go_simp
                refine ⟨_, fun _ _ => rfl, ?_⟩
                subst hK
                unfold wpQuiet
                generalize hK : wpQuiet Try.prog _ _ _ _ = K
                rw [if_pos (by go_simp)]
                refine quiet_load3 _ _ _ rfl rfl q0 ?_
                go_simp
                subst hK
                unfold wpQuiet
                generalize hK : wpQuiet Try.prog _ _ _ _ = K
                go_simp
                refine ⟨_, fun _ _ => rfl, ?_⟩
                subst hK
                unfold wpQuiet
                generalize hK : wpQuiet Try.prog _ _ _ _ = K
                rw [if_pos (by go_simp)]
                refine quiet_load3 _ _ _ rfl rfl q1 ?_
                go_simp
                subst hK
                unfold wpQuiet
                generalize hK : wpQuiet Try.prog _ _ _ _ = K
                go_simp
                refine ⟨_, fun w' hw => (travel_any s HR.out _ _ w').mono fun e w'' hh => ⟨hh.1, below_class hw hh.2⟩, ?_⟩
                subst hK
                unfold wpQuiet
                generalize hK : wpQuiet Try.prog _ _ _ _ = K
                go_simp
                refine ⟨_, fun _ _ => rfl, ?_⟩
                subst hK
                unfold wpQuiet
                generalize hK : wpQuiet Try.prog _ _ _ _ = K
                go_simp
                refine ⟨_, fun _ _ => rfl, ?_⟩
                subst hK
                unfold wpQuiet
                generalize hK : wpQuiet Try.prog _ _ _ _ = K
                go_simp
                refine ⟨_, fun _ _ => rfl, ?_⟩
                subst hK
                unfold wpQuiet
                generalize hK : wpQuiet Try.prog _ _ _ _ = K
                go_simp
                subst hK
                unfold wpQuiet
                generalize hK : wpQuiet Try.prog _ _ _ _ = K
                go_simp
                subst hK
                unfold wpQuiet
                generalize hK : wpQuiet Try.prog _ _ _ _ = K
                go_simp
                refine ⟨_, fun _ _ => rfl, ?_⟩
                subst hK
                unfold wpQuiet
                generalize hK : wpQuiet Try.prog _ _ _ _ = K
                go_simp
                refine ⟨_, fun _ _ => rfl, ?_⟩
                subst hK
                refine wpQuiet_nil ?_
                intro W5 hb
                have HB5 := Hid.intro' (below_class HB3.out hb)
                clear hb hs hc q0 q1 q2 q3
                go_wp2
                go_ret
                refine ⟨ret_boo ?_, HB5.out⟩
                rw [HW.out, crW1 HM.out]
                simp only [decide_eq_false_iff_not] at k3
                symm; rw [decide_eq_false_iff_not]; omega
            · unfold wpQuiet
              generalize hK : wpQuiet Try.prog _ _ _ _ = K
              go_simp
              refine ⟨_, fun _ _ => rfl, ?_⟩
              subst hK
              unfold wpQuiet
              generalize hK : wpQuiet Try.prog _ _ _ _ = K
              rw [if_pos (by go_simp)]
              refine quiet_load3 _ _ _ rfl rfl q1 ?_
              go_simp
              subst hK
              unfold wpQuiet
              generalize hK : wpQuiet Try.prog _ _ _ _ = K
              go_simp
              refine ⟨_, fun _ _ => rfl, ?_⟩
              subst hK
              unfold wpQuiet
              generalize hK : wpQuiet Try.prog _ _ _ _ = K
              rw [if_pos (by go_simp)]
              refine quiet_load3 _ _ _ rfl rfl q0 ?_
              go_simp
              subst hK
              unfold wpQuiet
              generalize hK : wpQuiet Try.prog _ _ _ _ = K
              go_simp
              refine ⟨_, fun _ _ => rfl, ?_⟩
              subst hK
              unfold wpQuiet
              generalize hK : wpQuiet Try.prog _ _ _ _ = K
              go_simp
              refine ⟨_, fun _ _ => rfl, ?_⟩
              subst hK
              unfold wpQuiet
              generalize hK : wpQuiet Try.prog _ _ _ _ = K
              go_simp
              refine ⟨_, fun _ _ => rfl, ?_⟩
              subst hK
              unfold wpQuiet
              generalize hK : wpQuiet Try.prog _ _ _ _ = K
              rw [if_pos (by go_simp)]
              refine quiet_load3 _ _ _ rfl rfl q2 ?_
              go_simp
              subst hK
              unfold wpQuiet
              generalize hK : wpQuiet Try.prog _ _ _ _ = K
              go_simp
              refine ⟨_, fun _ _ => rfl, ?_⟩
              subst hK
              unfold wpQuiet
              generalize hK : wpQuiet Try.prog _ _ _ _ = K
              go_simp
              refine ⟨_, fun _ _ => rfl, ?_⟩
              subst hK
              unfold wpQuiet
              generalize hK : wpQuiet Try.prog _ _ _ _ = K
              go_simp
              refine ⟨_, fun _ _ => rfl, ?_⟩
              subst hK
              unfold wpQuiet
              generalize hK : wpQuiet Try.prog _ _ _ _ = K
              go_simp
              subst hK
              unfold wpQuiet
              generalize hK : wpQuiet Try.prog _ _ _ _ = K
              go_simp
              subst hK
              unfold wpQuiet
              generalize hK : wpQuiet Try.prog _ _ _ _ = K
              go_simp
              subst hK
              unfold wpQuiet
              generalize hK : wpQuiet Try.prog _ _ _ _ = K
              go_simp
              subst hK
              unfold wpQuiet
              generalize hK : wpQuiet Try.prog _ _ _ _ = K
              go_simp
              subst hK
              unfold wpQuiet
              generalize hK : wpQuiet Try.prog _ _ _ _ = K
              go_simp
              subst hK
              unfold wpQuiet
              generalize hK : wpQuiet Try.prog _ _ _ _ = K
              go_simp
              subst hK
              unfold wpQuiet
              generalize hK : wpQuiet Try.prog _ _ _ _ = K
              go_simp
              subst hK
              unfold wpQuiet
              generalize hK : wpQuiet Try.prog _ _ _ _ = K
              go_simp
              subst hK
              unfold wpQuiet
              generalize hK : wpQuiet Try.prog _ _ _ _ = K
              go_simp
              refine ⟨_, fun _ _ => rfl, ?_⟩
              subst hK
              unfold wpQuiet
              generalize hK : wpQuiet Try.prog _ _ _ _ = K
              go_simp
              refine ⟨_, fun _ _ => rfl, ?_⟩
              subst hK
              unfold wpQuiet
              generalize hK : wpQuiet Try.prog _ _ _ _ = K
              go_simp
              subst hK
              unfold wpQuiet
              generalize hK : wpQuiet Try.prog _ _ _ _ = K
              go_simp
              subst hK
              unfold wpQuiet
              generalize hK : wpQuiet Try.prog _ _ _ _ = K
              go_simp
              refine ⟨_, fun _ _ => rfl, ?_⟩
              subst hK
              unfold wpQuiet
              generalize hK : wpQuiet Try.prog _ _ _ _ = K
              go_simp
              refine ⟨_, fun _ _ => rfl, ?_⟩
              subst hK
              refine wpQuiet_nil ?_
              intro W5 hb
              have HB5 := Hid.intro' (below_class HB3.out hb)
              clear hb hs hc q0 q1 q2 q3
              go_wp2
              go_ret
              refine ⟨ret_boo ?_, HB5.out⟩
              rw [HW.out, crW1 HM.out]
              simp only [decide_eq_false_iff_not] at k2
              symm; rw [decide_eq_false_iff_not]; omega
          · unfold wpQuiet
            generalize hK : wpQuiet Try.prog _ _ _ _ = K
            go_simp
            refine ⟨_, fun _ _ => rfl, ?_⟩
            subst hK
            unfold wpQuiet
            generalize hK : wpQuiet Try.prog _ _ _ _ = K
            rw [if_pos (by go_simp)]
            refine quiet_load3 _ _ _ rfl rfl q1 ?_
            go_simp
            subst hK
            unfold wpQuiet
            generalize hK : wpQuiet Try.prog _ _ _ _ = K
            go_simp
            refine ⟨_, fun _ _ => rfl, ?_⟩
            subst hK
            unfold wpQuiet
            generalize hK : wpQuiet Try.prog _ _ _ _ = K
            rw [if_pos (by go_simp)]
            refine quiet_load3 _ _ _ rfl rfl q0 ?_
            go_simp
            subst hK
            unfold wpQuiet
            generalize hK : wpQuiet Try.prog _ _ _ _ = K
            go_simp
            refine ⟨_, fun _ _ => rfl, ?_⟩
            subst hK
            unfold wpQuiet
            generalize hK : wpQuiet Try.prog _ _ _ _ = K
            go_simp
            refine ⟨_, fun _ _ => rfl, ?_⟩
            subst hK
            unfold wpQuiet
            generalize hK : wpQuiet Try.prog _ _ _ _ = K
            go_simp
            subst hK
            unfold wpQuiet
            generalize hK : wpQuiet Try.prog _ _ _ _ = K
            go_simp
            subst hK
            unfold wpQuiet
            generalize hK : wpQuiet Try.prog _ _ _ _ = K
            go_simp
            subst hK
            unfold wpQuiet
            generalize hK : wpQuiet Try.prog _ _ _ _ = K
            go_simp
            refine ⟨_, fun _ _ => rfl, ?_⟩
            subst hK
            unfold wpQuiet
            generalize hK : wpQuiet Try.prog _ _ _ _ = K
            go_simp
            refine ⟨_, fun _ _ => rfl, ?_⟩
            subst hK
            unfold wpQuiet
            generalize hK : wpQuiet Try.prog _ _ _ _ = K
            go_simp
            subst hK
            unfold wpQuiet
            generalize hK : wpQuiet Try.prog _ _ _ _ = K
            go_simp
            subst hK
            unfold wpQuiet
            generalize hK : wpQuiet Try.prog _ _ _ _ = K
            go_simp
            subst hK
            unfold wpQuiet
            generalize hK : wpQuiet Try.prog _ _ _ _ = K
            go_simp
            subst hK
            unfold wpQuiet
            generalize hK : wpQuiet Try.prog _ _ _ _ = K
            go_simp
            subst hK
            unfold wpQuiet
            generalize hK : wpQuiet Try.prog _ _ _ _ = K
            go_simp
            subst hK
            unfold wpQuiet
            generalize hK : wpQuiet Try.prog _ _ _ _ = K
            go_simp
            subst hK
            unfold wpQuiet
            generalize hK : wpQuiet Try.prog _ _ _ _ = K
            go_simp
            subst hK
            unfold wpQuiet
            generalize hK : wpQuiet Try.prog _ _ _ _ = K
            go_simp
            subst hK
            unfold wpQuiet
            generalize hK : wpQuiet Try.prog _ _ _ _ = K
            go_simp
            refine ⟨_, fun _ _ => rfl, ?_⟩
            subst hK
            unfold wpQuiet
            generalize hK : wpQuiet Try.prog _ _ _ _ = K
            go_simp
            refine ⟨_, fun _ _ => rfl, ?_⟩
            subst hK
            unfold wpQuiet
            generalize hK : wpQuiet Try.prog _ _ _ _ = K
            go_simp
            subst hK
            unfold wpQuiet
            generalize hK : wpQuiet Try.prog _ _ _ _ = K
            go_simp
            subst hK
            unfold wpQuiet
            generalize hK : wpQuiet Try.prog _ _ _ _ = K
            go_simp
            refine ⟨_, fun _ _ => rfl, ?_⟩
            subst hK
            unfold wpQuiet
            generalize hK : wpQuiet Try.prog _ _ _ _ = K
            go_simp
            refine ⟨_, fun _ _ => rfl, ?_⟩
            subst hK
            refine wpQuiet_nil ?_
            intro W5 hb
            have HB5 := Hid.intro' (below_class HB3.out hb)
            clear hb hs hc q0 q1 q2 q3
            go_wp2
            go_ret
            refine ⟨ret_boo ?_, HB5.out⟩
            rw [HW.out, crW1 HM.out]
            simp only [bne_eq_false_iff_eq] at k1
            symm; rw [decide_eq_false_iff_not]; omega

set_option maxHeartbeats 4000000 in
theorem rcright_any (s : St) (c : Cr) (w : World) :
    Calls Try.prog 14 #[.agg (sv s).toArray, .agg #[.int .i64 c.fl, .int .i64 c.tg, .int .i64 c.ti, .int .i64 c.d.ph, .int .i64 c.d.le, .int .i64 c.d.ru, .bool c.d.he, .bool c.fa]] w fun e w' => e = .returned (.bool (crB s c)) ∧ Below w.heap.size w w' := by
  go_enter Try.func14, Try.ntmps14
  go_wp2_with (first | (refine wpList_load23 rfl _ rfl w.heap.size s rfl ((SB.new w s).alloc _) ?_) | (refine wpList_loadM rfl _ rfl (w.heap.size + 1) rfl (CB.new' _ c (by simp)) ?_))
  cases hdr : drB s c.d.ph c.d.le c.d.ru c.d.he
  · have c1 := rdright_any s c.d.ph c.d.le c.d.ru c.d.he ((w.alloc (.cells (sv s).toArray 23)).alloc (.cells #[.int .i64 c.fl, .int .i64 c.tg, .int .i64 c.ti, .int .i64 c.d.ph, .int .i64 c.d.le, .int .i64 c.d.ru, .bool c.d.he, .bool c.fa] 31))
    rw [hdr] at c1
    refine (calls_keepC (bs := w.heap.size) (bc := w.heap.size + 1) c1 (((Below.refl _ w).alloc (Nat.le_refl _) _).alloc (by simp) _) ((SB.new w s).alloc _) (CB.new' _ c (by simp))).mono ?_
    rintro e W1 ⟨rfl, hB, _, _⟩
    have HB1 := Hid.intro' hB
    have HD := Hid.intro' hdr
    clear hB c1 hdr
    go_wp2
    go_ret
    exact ⟨ret_boo (crB_d HD.out).symm, HB1.out⟩
  · have c1 := rdright_any s c.d.ph c.d.le c.d.ru c.d.he ((w.alloc (.cells (sv s).toArray 23)).alloc (.cells #[.int .i64 c.fl, .int .i64 c.tg, .int .i64 c.ti, .int .i64 c.d.ph, .int .i64 c.d.le, .int .i64 c.d.ru, .bool c.d.he, .bool c.fa] 31))
    rw [hdr] at c1
    refine (calls_keepC (bs := w.heap.size) (bc := w.heap.size + 1) c1 (((Below.refl _ w).alloc (Nat.le_refl _) _).alloc (by simp) _) ((SB.new w s).alloc _) (CB.new' _ c (by simp))).mono ?_
    rintro e W3 ⟨rfl, hB, hs1, hc1⟩
    have HB3 := Hid.intro' hB
    have HS3 := Hid.intro' hs1
    have HC3 := Hid.intro' hc1
    have HD := Hid.intro' hdr
    have HR := Hid.intro' (drB_rt hdr).1
    have a0 := hc1.c0; have a1 := hc1.c1; have a2 := hc1.c2
    have b0 : W3.cell? ⟨w.heap.size, 0, none⟩ = some (.int .i64 s.fl) := hs1.cell 0
    clear hB c1 hs1 hc1 hdr
    cases hf : CM.has s c.fl
    · have hf' : ¬ (0 ≤ c.fl ∧ c.fl < s.fl) := by rw [← has_iff, hf]; simp
      have HF := Hid.intro' hf
      clear hf
      by_cases h0 : c.fl < 0
      · clear hf'
        go_wp2
        go_ret
        exact ⟨ret_boo (crB_f HF.out).symm, HB3.out⟩
      · have h1 : s.fl ≤ c.fl := by omega
        have h0' : 0 ≤ c.fl := by omega
        clear hf' h0
        go_wp2
        go_ret
        exact ⟨ret_boo (crB_f HF.out).symm, HB3.out⟩
    · have hf' := has_iff.1 hf
      obtain ⟨f1, f2⟩ := hf'
      have HF := Hid.intro' hf
      clear hf
      cases ht : CM.has s c.tg
      · have ht' : ¬ (0 ≤ c.tg ∧ c.tg < s.fl) := by rw [← has_iff, ht]; simp
        have HT := Hid.intro' ht
        clear ht
        by_cases h0 : c.tg < 0
        · clear ht'
          go_wp2
          go_ret
          exact ⟨ret_boo (crB_t HT.out).symm, HB3.out⟩
        · have h1 : s.fl ≤ c.tg := by omega
          have h0' : 0 ≤ c.tg := by omega
          clear ht' h0
          go_wp2
          go_ret
          exact ⟨ret_boo (crB_t HT.out).symm, HB3.out⟩
      · have ht' := has_iff.1 ht
        obtain ⟨t1, t2⟩ := ht'
        have HW := Hid.intro' (crB_w HD.out HF.out ht)
        clear ht
        by_cases hm : c.ti = 0
        · have HM := Hid.intro' hm
          have hm' : (c.ti == 0) = true := by simpa using hm
          clear hm
          go_wp2
          go_ret
          refine ⟨ret_boo ?_, HB3.out⟩
          rw [HW.out, crW0 HM.out]
          rfl
        · have HM := Hid.intro' hm
          have hm' : (c.ti == 0) = false := by simpa using hm
          clear hm
          go_wp2_with fail
          clear a0 a1 a2 b0
          have hs : ∀ w', Below W3.heap.size W3 w' → SB w' w.heap.size s := fun w' h' => HS3.out.below' h'
          have hc : ∀ w', Below W3.heap.size W3 w' → CB w' (w.heap.size + 1) c := fun w' h' => HC3.out.below' h'
          have q0 : ∀ w', Below W3.heap.size W3 w' → w'.cell? ⟨w.heap.size + 1, 0, none⟩ = some (.int .i64 c.fl) := fun w' h' => (HC3.out.below' h').c0
          have q1 : ∀ w', Below W3.heap.size W3 w' → w'.cell? ⟨w.heap.size + 1, 1, none⟩ = some (.int .i64 c.tg) := fun w' h' => (HC3.out.below' h').c1
          have q2 : ∀ w', Below W3.heap.size W3 w' → w'.cell? ⟨w.heap.size + 1, 2, none⟩ = some (.int .i64 c.ti) := fun w' h' => (HC3.out.below' h').c2
          have q3 : ∀ w', Below W3.heap.size W3 w' → w'.cell? ⟨w.heap.size + 1, 3, none⟩ = some (.int .i64 c.d.ph) := fun w' h' => (HC3.out.below' h').c3
          refine wp_region_quiet (C := fun w' => Below W3.heap.size W3 w') (by kernel_rfl) (by kernel_rfl) ((Below.refl _ W3).drew) ?_
          simp only []
          rcases Bool.eq_false_or_eq_true (decide (0 < c.ti)) with k1 | k1
          · rcases Bool.eq_false_or_eq_true (c.tg != c.fl) with k2 | k2
            · rcases Bool.eq_false_or_eq_true (c.d.ph == 0) with k3 | k3
              · unfold wpQuiet
                generalize hK : wpQuiet Try.prog _ _ _ _ = K
                go_simp
                refine ⟨_, fun _ _ => rfl, ?_⟩
                subst hK
                unfold wpQuiet
                generalize hK : wpQuiet Try.prog _ _ _ _ = K
                rw [if_pos (by go_simp)]
                refine quiet_load3 _ _ _ rfl rfl q2 ?_
                go_simp
                subst hK
                unfold wpQuiet
                generalize hK : wpQuiet Try.prog _ _ _ _ = K
                go_simp
                refine ⟨_, fun _ _ => rfl, ?_⟩
                subst hK
                unfold wpQuiet
                generalize hK : wpQuiet Try.prog _ _ _ _ = K
                go_simp
                refine ⟨_, fun _ _ => rfl, ?_⟩
                subst hK
                unfold wpQuiet
                generalize hK : wpQuiet Try.prog _ _ _ _ = K
                go_simp
                refine ⟨_, fun _ _ => rfl, ?_⟩
                subst hK
                unfold wpQuiet
                generalize hK : wpQuiet Try.prog _ _ _ _ = K
                rw [if_pos (by go_simp)]
                refine quiet_load3 _ _ _ rfl rfl q1 ?_
                go_simp
                subst hK
                unfold wpQuiet
                generalize hK : wpQuiet Try.prog _ _ _ _ = K
                go_simp
                refine ⟨_, fun _ _ => rfl, ?_⟩
                subst hK
                unfold wpQuiet
                generalize hK : wpQuiet Try.prog _ _ _ _ = K
                rw [if_pos (by go_simp)]
                refine quiet_load3 _ _ _ rfl rfl q0 ?_
                go_simp
                subst hK
                unfold wpQuiet
                generalize hK : wpQuiet Try.prog _ _ _ _ = K
                go_simp
                refine ⟨_, fun _ _ => rfl, ?_⟩
                subst hK
                unfold wpQuiet
                generalize hK : wpQuiet Try.prog _ _ _ _ = K
                go_simp
                refine ⟨_, fun _ _ => rfl, ?_⟩
                subst hK
                unfold wpQuiet
                generalize hK : wpQuiet Try.prog _ _ _ _ = K
                go_simp
                refine ⟨_, fun _ _ => rfl, ?_⟩
                subst hK
                unfold wpQuiet
                generalize hK : wpQuiet Try.prog _ _ _ _ = K
                go_simp
                refine ⟨_, fun _ _ => rfl, ?_⟩
                subst hK
                unfold wpQuiet
                generalize hK : wpQuiet Try.prog _ _ _ _ = K
                go_simp
                refine ⟨_, fun _ _ => rfl, ?_⟩
                subst hK
                unfold wpQuiet
                generalize hK : wpQuiet Try.prog _ _ _ _ = K
                rw [if_pos (by go_simp)]
                refine quiet_load3 _ _ _ rfl rfl q3 ?_
                go_simp
                subst hK
                unfold wpQuiet
                generalize hK : wpQuiet Try.prog _ _ _ _ = K
                go_simp
                refine ⟨_, fun _ _ => rfl, ?_⟩
                subst hK
                unfold wpQuiet
                generalize hK : wpQuiet Try.prog _ _ _ _ = K
                go_simp
                refine ⟨_, fun _ _ => rfl, ?_⟩
                subst hK
                unfold wpQuiet
                generalize hK : wpQuiet Try.prog _ _ _ _ = K
                go_simp
                refine ⟨_, fun _ _ => rfl, ?_⟩
                subst hK
                unfold wpQuiet
                generalize hK : wpQuiet Try.prog _ _ _ _ = K
                go_simp
                refine ⟨_, fun _ _ => rfl, ?_⟩
                subst hK
                unfold wpQuiet
                generalize hK : wpQuiet Try.prog _ _ _ _ = K
                rw [if_pos (by go_simp)]
                refine quiet_load3 _ _ _ rfl rfl q2 ?_
                go_simp
                subst hK
                unfold wpQuiet
                generalize hK : wpQuiet Try.prog _ _ _ _ = K
                rw [if_pos (by go_simp)]
                refine quiet_load23 _ w.heap.size s rfl rfl hs ?_
                go_simp
                subst hK
                unfold wpQuiet
                generalize hK : wpQuiet Try.prog _ _ _ _ = K
                go_simp
                refine ⟨_, fun _ _ => rfl, ?_⟩
                subst hK
                unfold wpQuiet
                generalize hK : wpQuiet Try.prog _ _ _ _ = K
                rw [if_pos (by go_simp)]
                refine quiet_load3 _ _ _ rfl rfl q0 ?_
                go_simp
                subst hK
                unfold wpQuiet
                generalize hK : wpQuiet Try.prog _ _ _ _ = K
                go_simp
                refine ⟨_, fun _ _ => rfl, ?_⟩
                subst hK
                unfold wpQuiet
                generalize hK : wpQuiet Try.prog _ _ _ _ = K
                rw [if_pos (by go_simp)]
                refine quiet_load3 _ _ _ rfl rfl q1 ?_
                go_simp
                subst hK
                unfold wpQuiet
                generalize hK : wpQuiet Try.prog _ _ _ _ = K
                go_simp
                refine ⟨_, fun w' hw => (rtravel_any s HR.out _ _ w').mono fun e w'' hh => ⟨hh.1, below_class hw hh.2⟩, ?_⟩
                subst hK
                unfold wpQuiet
                generalize hK : wpQuiet Try.prog _ _ _ _ = K
                go_simp
                refine ⟨_, fun _ _ => rfl, ?_⟩
                subst hK
                unfold wpQuiet
                generalize hK : wpQuiet Try.prog _ _ _ _ = K
                go_simp
                refine ⟨_, fun _ _ => rfl, ?_⟩
                subst hK
                unfold wpQuiet
                generalize hK : wpQuiet Try.prog _ _ _ _ = K
                go_simp
                refine ⟨_, fun _ _ => rfl, ?_⟩
                subst hK
                refine wpQuiet_nil ?_
                intro W5 hb
                have HB5 := Hid.intro' (below_class HB3.out hb)
                clear hb hs hc q0 q1 q2 q3
                go_wp2
                go_ret
                refine ⟨ret_boo ?_, HB5.out⟩
                rw [HW.out, crW1 HM.out]
                simp only [decide_eq_true_eq, bne_iff_ne, ne_eq, beq_iff_eq] at k1 k2 k3
                have k1' : 1 ≤ c.ti := by omega
                simp [k1', k2, k3]
              · unfold wpQuiet
                generalize hK : wpQuiet Try.prog _ _ _ _ = K
                go_simp
                refine ⟨_, fun _ _ => rfl, ?_⟩
                subst hK
                unfold wpQuiet
                generalize hK : wpQuiet Try.prog _ _ _ _ = K
                rw [if_pos (by go_simp)]
                refine quiet_load3 _ _ _ rfl rfl q2 ?_
                go_simp
                subst hK
                unfold wpQuiet
                generalize hK : wpQuiet Try.prog _ _ _ _ = K
                go_simp
                refine ⟨_, fun _ _ => rfl, ?_⟩
                subst hK
                unfold wpQuiet
                generalize hK : wpQuiet Try.prog _ _ _ _ = K
                go_simp
                refine ⟨_, fun _ _ => rfl, ?_⟩
                subst hK
                unfold wpQuiet
                generalize hK : wpQuiet Try.prog _ _ _ _ = K
                go_simp
                refine ⟨_, fun _ _ => rfl, ?_⟩
                subst hK
                unfold wpQuiet
                generalize hK : wpQuiet Try.prog _ _ _ _ = K
                rw [if_pos (by go_simp)]
                refine quiet_load3 _ _ _ rfl rfl q1 ?_
                go_simp
                subst hK
                unfold wpQuiet
                generalize hK : wpQuiet Try.prog _ _ _ _ = K
                go_simp
                refine ⟨_, fun _ _ => rfl, ?_⟩
                subst hK
                unfold wpQuiet
                generalize hK : wpQuiet Try.prog _ _ _ _ = K
                rw [if_pos (by go_simp)]
                refine quiet_load3 _ _ _ rfl rfl q0 ?_
                go_simp
                subst hK
                unfold wpQuiet
                generalize hK : wpQuiet Try.prog _ _ _ _ = K
                go_simp
                refine ⟨_, fun _ _ => rfl, ?_⟩
                subst hK
                unfold wpQuiet
                generalize hK : wpQuiet Try.prog _ _ _ _ = K
                go_simp
                refine ⟨_, fun _ _ => rfl, ?_⟩
                subst hK
                unfold wpQuiet
                generalize hK : wpQuiet Try.prog _ _ _ _ = K
                go_simp
                refine ⟨_, fun _ _ => rfl, ?_⟩
                subst hK
                unfold wpQuiet
                generalize hK : wpQuiet Try.prog _ _ _ _ = K
                go_simp
                refine ⟨_, fun _ _ => rfl, ?_⟩
                subst hK
                unfold wpQuiet
                generalize hK : wpQuiet Try.prog _ _ _ _ = K
                go_simp
                refine ⟨_, fun _ _ => rfl, ?_⟩
                subst hK
                unfold wpQuiet
                generalize hK : wpQuiet Try.prog _ _ _ _ = K
                rw [if_pos (by go_simp)]
                refine quiet_load3 _ _ _ rfl rfl q3 ?_
                go_simp
                subst hK
                unfold wpQuiet
                generalize hK : wpQuiet Try.prog _ _ _ _ = K
                go_simp
                refine ⟨_, fun _ _ => rfl, ?_⟩
                subst hK
                unfold wpQuiet
                generalize hK : wpQuiet Try.prog _ _ _ _ = K
                go_simp
                refine ⟨_, fun _ _ => rfl, ?_⟩
                subst hK
                unfold wpQuiet
                generalize hK : wpQuiet Try.prog _ _ _ _ = K
                go_simp
                refine ⟨_, fun _ _ => rfl, ?_⟩
                subst hK
                unfold wpQuiet
                generalize hK : wpQuiet Try.prog _ _ _ _ = K
                go_simp
                subst hK
                unfold wpQuiet
                generalize hK : wpQuiet Try.prog _ _ _ _ = K
                go_simp
                subst hK
                unfold wpQuiet
                generalize hK : wpQuiet Try.prog _ _ _ _ = K
                go_simp
                subst hK
                unfold wpQuiet
                generalize hK : wpQuiet Try.prog _ _ _ _ = K
                go_simp
                subst hK
                unfold wpQuiet
                generalize hK : wpQuiet Try.prog _ _ _ _ = K
                go_simp
                subst hK
                unfold wpQuiet
                generalize hK : wpQuiet Try.prog _ _ _ _ = K
                go_simp
                subst hK
                unfold wpQuiet
                generalize hK : wpQuiet Try.prog _ _ _ _ = K
                go_simp
                subst hK
                unfold wpQuiet
                generalize hK : wpQuiet Try.prog _ _ _ _ = K
                go_simp
                subst hK
                unfold wpQuiet
                generalize hK : wpQuiet Try.prog _ _ _ _ = K
                go_simp
                subst hK
                unfold wpQuiet
                generalize hK : wpQuiet Try.prog _ _ _ _ = K
                go_simp
                refine ⟨_, fun _ _ => rfl, ?_⟩
                subst hK
                unfold wpQuiet
                generalize hK : wpQuiet Try.prog _ _ _ _ = K
                go_simp
                refine ⟨_, fun _ _ => rfl, ?_⟩
                subst hK
                refine wpQuiet_nil ?_
                intro W5 hb
                have HB5 := Hid.intro' (below_class HB3.out hb)
                clear hb hs hc q0 q1 q2 q3
                go_wp2
                go_ret
                refine ⟨ret_boo ?_, HB5.out⟩
                rw [HW.out, crW1 HM.out]
                simp only [beq_eq_false_iff_ne, ne_eq] at k3
                symm; rw [decide_eq_false_iff_not]; omega
            · unfold wpQuiet
              generalize hK : wpQuiet Try.prog _ _ _ _ = K
              go_simp
              refine ⟨_, fun _ _ => rfl, ?_⟩
              subst hK
              unfold wpQuiet
              generalize hK : wpQuiet Try.prog _ _ _ _ = K
              rw [if_pos (by go_simp)]
              refine quiet_load3 _ _ _ rfl rfl q2 ?_
              go_simp
              subst hK
              unfold wpQuiet
              generalize hK : wpQuiet Try.prog _ _ _ _ = K
              go_simp
              refine ⟨_, fun _ _ => rfl, ?_⟩
              subst hK
              unfold wpQuiet
              generalize hK : wpQuiet Try.prog _ _ _ _ = K
              go_simp
              refine ⟨_, fun _ _ => rfl, ?_⟩
              subst hK
              unfold wpQuiet
              generalize hK : wpQuiet Try.prog _ _ _ _ = K
              go_simp
              refine ⟨_, fun _ _ => rfl, ?_⟩
              subst hK
              unfold wpQuiet
              generalize hK : wpQuiet Try.prog _ _ _ _ = K
              rw [if_pos (by go_simp)]
              refine quiet_load3 _ _ _ rfl rfl q1 ?_
              go_simp
              subst hK
              unfold wpQuiet
              generalize hK : wpQuiet Try.prog _ _ _ _ = K
              go_simp
              refine ⟨_, fun _ _ => rfl, ?_⟩
              subst hK
              unfold wpQuiet
              generalize hK : wpQuiet Try.prog _ _ _ _ = K
              rw [if_pos (by go_simp)]
              refine quiet_load3 _ _ _ rfl rfl q0 ?_
              go_simp
              subst hK
              unfold wpQuiet
              generalize hK : wpQuiet Try.prog _ _ _ _ = K
              go_simp
              refine ⟨_, fun _ _ => rfl, ?_⟩
              subst hK
              unfold wpQuiet
              generalize hK : wpQuiet Try.prog _ _ _ _ = K
              go_simp
              refine ⟨_, fun _ _ => rfl, ?_⟩
              subst hK
              unfold wpQuiet
              generalize hK : wpQuiet Try.prog _ _ _ _ = K
              go_simp
              refine ⟨_, fun _ _ => rfl, ?_⟩
              subst hK
              unfold wpQuiet
              generalize hK : wpQuiet Try.prog _ _ _ _ = K
              go_simp
              subst hK
              unfold wpQuiet
              generalize hK : wpQuiet Try.prog _ _ _ _ = K
              go_simp
              subst hK
              unfold wpQuiet
              generalize hK : wpQuiet Try.prog _ _ _ _ = K
              go_simp
              subst hK
              unfold wpQuiet
              generalize hK : wpQuiet Try.prog _ _ _ _ = K
              go_simp
              subst hK
              unfold wpQuiet
              generalize hK : wpQuiet Try.prog _ _ _ _ = K
              go_simp
              refine ⟨_, fun _ _ => rfl, ?_⟩
              subst hK
              unfold wpQuiet
              generalize hK : wpQuiet Try.prog _ _ _ _ = K
              go_simp
              refine ⟨_, fun _ _ => rfl, ?_⟩
              subst hK
              unfold wpQuiet
              generalize hK : wpQuiet Try.prog _ _ _ _ = K
              go_simp
              subst hK
              unfold wpQuiet
              generalize hK : wpQuiet Try.prog _ _ _ _ = K
              go_simp
              subst hK
              unfold wpQuiet
              generalize hK : wpQuiet Try.prog _ _ _ _ = K
              go_simp
              subst hK
              unfold wpQuiet
              generalize hK : wpQuiet Try.prog _ _ _ _ = K
              go_simp
              subst hK
              unfold wpQuiet
              generalize hK : wpQuiet Try.prog _ _ _ _ = K
              go_simp
              subst hK
              unfold wpQuiet
              generalize hK : wpQuiet Try.prog _ _ _ _ = K
              go_simp
              subst hK
              unfold wpQuiet
              generalize hK : wpQuiet Try.prog _ _ _ _ = K
              go_simp
              subst hK
              unfold wpQuiet
              generalize hK : wpQuiet Try.prog _ _ _ _ = K
              go_simp
              subst hK
              unfold wpQuiet
              generalize hK : wpQuiet Try.prog _ _ _ _ = K
              go_simp
              subst hK
              unfold wpQuiet
              generalize hK : wpQuiet Try.prog _ _ _ _ = K
              go_simp
              refine ⟨_, fun _ _ => rfl, ?_⟩
              subst hK
              unfold wpQuiet
              generalize hK : wpQuiet Try.prog _ _ _ _ = K
              go_simp
              refine ⟨_, fun _ _ => rfl, ?_⟩
              subst hK
              refine wpQuiet_nil ?_
              intro W5 hb
              have HB5 := Hid.intro' (below_class HB3.out hb)
              clear hb hs hc q0 q1 q2 q3
              go_wp2
              go_ret
              refine ⟨ret_boo ?_, HB5.out⟩
              rw [HW.out, crW1 HM.out]
              simp only [bne_eq_false_iff_eq] at k2
              symm; rw [decide_eq_false_iff_not]; omega
          · unfold wpQuiet
            generalize hK : wpQuiet Try.prog _ _ _ _ = K
            go_simp
            refine ⟨_, fun _ _ => rfl, ?_⟩
            subst hK
            unfold wpQuiet
            generalize hK : wpQuiet Try.prog _ _ _ _ = K
            rw [if_pos (by go_simp)]
            refine quiet_load3 _ _ _ rfl rfl q2 ?_
            go_simp
            subst hK
            unfold wpQuiet
            generalize hK : wpQuiet Try.prog _ _ _ _ = K
            go_simp
            refine ⟨_, fun _ _ => rfl, ?_⟩
            subst hK
            unfold wpQuiet
            generalize hK : wpQuiet Try.prog _ _ _ _ = K
            go_simp
            refine ⟨_, fun _ _ => rfl, ?_⟩
            subst hK
            unfold wpQuiet
            generalize hK : wpQuiet Try.prog _ _ _ _ = K
            go_simp
            subst hK
            unfold wpQuiet
            generalize hK : wpQuiet Try.prog _ _ _ _ = K
            go_simp
            subst hK
            unfold wpQuiet
            generalize hK : wpQuiet Try.prog _ _ _ _ = K
            go_simp
            subst hK
            unfold wpQuiet
            generalize hK : wpQuiet Try.prog _ _ _ _ = K
            go_simp
            subst hK
            unfold wpQuiet
            generalize hK : wpQuiet Try.prog _ _ _ _ = K
            go_simp
            subst hK
            unfold wpQuiet
            generalize hK : wpQuiet Try.prog _ _ _ _ = K
            go_simp
            refine ⟨_, fun _ _ => rfl, ?_⟩
            subst hK
            unfold wpQuiet
            generalize hK : wpQuiet Try.prog _ _ _ _ = K
            go_simp
            refine ⟨_, fun _ _ => rfl, ?_⟩
            subst hK
            unfold wpQuiet
            generalize hK : wpQuiet Try.prog _ _ _ _ = K
            go_simp
            subst hK
            unfold wpQuiet
            generalize hK : wpQuiet Try.prog _ _ _ _ = K
            go_simp
            subst hK
            unfold wpQuiet
            generalize hK : wpQuiet Try.prog _ _ _ _ = K
            go_simp
            subst hK
            unfold wpQuiet
            generalize hK : wpQuiet Try.prog _ _ _ _ = K
            go_simp
            subst hK
            unfold wpQuiet
            generalize hK : wpQuiet Try.prog _ _ _ _ = K
            go_simp
            refine ⟨_, fun _ _ => rfl, ?_⟩
            subst hK
            unfold wpQuiet
            generalize hK : wpQuiet Try.prog _ _ _ _ = K
            go_simp
            refine ⟨_, fun _ _ => rfl, ?_⟩
            subst hK
            unfold wpQuiet
            generalize hK : wpQuiet Try.prog _ _ _ _ = K
            go_simp
            subst hK
            unfold wpQuiet
            generalize hK : wpQuiet Try.prog _ _ _ _ = K
            go_simp
            subst hK
            unfold wpQuiet
            generalize hK : wpQuiet Try.prog _ _ _ _ = K
            go_simp
            subst hK
            unfold wpQuiet
            generalize hK : wpQuiet Try.prog _ _ _ _ = K
            go_simp
            subst hK
            unfold wpQuiet
            generalize hK : wpQuiet Try.prog _ _ _ _ = K
            go_simp
            subst hK
            unfold wpQuiet
            generalize hK : wpQuiet Try.prog _ _ _ _ = K
            go_simp
            subst hK
            unfold wpQuiet
            generalize hK : wpQuiet Try.prog _ _ _ _ = K
            go_simp
            subst hK
            unfold wpQuiet
            generalize hK : wpQuiet Try.prog _ _ _ _ = K
            go_simp
            subst hK
            unfold wpQuiet
            generalize hK : wpQuiet Try.prog _ _ _ _ = K
            go_simp
            subst hK
            unfold wpQuiet
            generalize hK : wpQuiet Try.prog _ _ _ _ = K
            go_simp
            refine ⟨_, fun _ _ => rfl, ?_⟩
            subst hK
            unfold wpQuiet
            generalize hK : wpQuiet Try.prog _ _ _ _ = K
            go_simp
            refine ⟨_, fun _ _ => rfl, ?_⟩
            subst hK
            refine wpQuiet_nil ?_
            intro W5 hb
            have HB5 := Hid.intro' (below_class HB3.out hb)
            clear hb hs hc q0 q1 q2 q3
            go_wp2
            go_ret
            refine ⟨ret_boo ?_, HB5.out⟩
            rw [HW.out, crW1 HM.out]
            simp only [decide_eq_false_iff_not] at k1
            symm; rw [decide_eq_false_iff_not]; omega

end Go.Proofs.Ytjcccdlhdffbdac
