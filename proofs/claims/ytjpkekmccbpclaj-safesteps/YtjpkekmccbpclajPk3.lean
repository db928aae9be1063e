/- Several texts in one, each with its own head. -/
import Derived.Test.YtjpkekmccbpclajPk1
import Derived.Test.YtjpkekmccbpclajPk2
/- Which cars may be, as the program tells it and as the document's answer does. -/
namespace Go.Proofs.Ytjpkekmccbpclaj
open Go.RowKit

/-- whether a car may be, where its door and its floors may -/
def crW (s : St) (c : Cr) : Bool := if c.ti = 0 then decide (c.tg = c.fl) else decide (c.tg ≠ c.fl ∧ 1 ≤ c.ti ∧ c.ti ≤ SM.trav s c.fl c.tg ∧ c.d.ph = 0)
/-- a right car, as a Boolean -/
def crB (s : St) (c : Cr) : Bool := drB s c.d.ph c.d.le c.d.ru c.d.he && CM.has s c.fl && CM.has s c.tg && crW s c
theorem drB_rt {s : St} {d : Dr} (h : drB s d.ph d.le d.ru d.he = true) : SM.Rt s ∧ DM.Rd s d := by
  unfold drB at h
  rw [Bool.and_eq_true] at h
  exact ⟨(rightB_iff s).1 h.1, (rdB_iff s d).1 h.2⟩
theorem drB_of {s : St} (R : SM.Rt s) {d : Dr} (h : DM.Rd s d) : drB s d.ph d.le d.ru d.he = true := by
  rw [drB_t R]; exact (rdB_iff s d).2 h
theorem has_iff {s : St} {f : Int} : CM.has s f = true ↔ 0 ≤ f ∧ f < s.fl := by unfold CM.has; exact decide_eq_true_iff
theorem crB_iff (s : St) (c : Cr) : crB s c = true ↔ CM.Rc s c := by
  unfold crB
  rw [Bool.and_eq_true, Bool.and_eq_true, Bool.and_eq_true, has_iff, has_iff]
  constructor
  · rintro ⟨⟨⟨h1, h2⟩, h3⟩, h4⟩
    have hr := drB_rt h1
    unfold crW at h4
    refine ⟨hr.1, hr.2, h2.1, h2.2, h3.1, h3.2, fun h0 => ?_, fun h0 => ?_⟩
    · rw [if_pos h0] at h4
      exact of_decide_eq_true h4
    · rw [if_neg h0] at h4
      obtain ⟨a, b, c', d⟩ := of_decide_eq_true h4
      exact ⟨a, b, c', CM.rd0 hr.2 d⟩
  · intro h
    refine ⟨⟨⟨drB_of h.rs h.rd, h.f1, h.f2⟩, h.t1, h.t2⟩, ?_⟩
    unfold crW
    split
    · rename_i h0
      exact decide_eq_true (h.st h0)
    · rename_i h0
      obtain ⟨a, b, c', d⟩ := h.mo h0
      exact decide_eq_true ⟨a, b, c', by rw [d]; rfl⟩
theorem crB_true {s : St} {c : Cr} (h : CM.Rc s c) : crB s c = true := (crB_iff s c).2 h
theorem crB_d {s : St} {c : Cr} (h : drB s c.d.ph c.d.le c.d.ru c.d.he = false) : crB s c = false := by unfold crB; rw [h]; rfl
theorem crB_f {s : St} {c : Cr} (h : CM.has s c.fl = false) : crB s c = false := by unfold crB; rw [h, Bool.and_false]; rfl
theorem crB_t {s : St} {c : Cr} (h : CM.has s c.tg = false) : crB s c = false := by unfold crB; rw [h, Bool.and_false]; rfl
theorem crB_w {s : St} {c : Cr} (h1 : drB s c.d.ph c.d.le c.d.ru c.d.he = true) (h2 : CM.has s c.fl = true) (h3 : CM.has s c.tg = true) : crB s c = crW s c := by unfold crB; rw [h1, h2, h3]; rfl
theorem crW0 {s : St} {c : Cr} (h : c.ti = 0) : crW s c = decide (c.tg = c.fl) := by unfold crW; rw [if_pos h]
theorem crW1 {s : St} {c : Cr} (h : c.ti ≠ 0) : crW s c = decide (c.tg ≠ c.fl ∧ 1 ≤ c.ti ∧ c.ti ≤ SM.trav s c.fl c.tg ∧ c.d.ph = 0) := by unfold crW; rw [if_neg h]

set_option maxHeartbeats 4000000 in
theorem cright_any (s : St) (c : Cr) (w : World) :
    Calls Try.prog 32 #[.agg (sv s).toArray, .agg #[.int .i64 c.fl, .int .i64 c.tg, .int .i64 c.ti, .int .i64 c.d.ph, .int .i64 c.d.le, .int .i64 c.d.ru, .bool c.d.he, .bool c.fa]] w fun e w' => e = .returned (.bool (crB s c)) ∧ Below w.heap.size w w' := by
  go_enter Try.func32, Try.ntmps32
  go_wp2_with (first | (refine wpList_load23 rfl _ rfl w.heap.size s rfl ((SB.new w s).alloc _) ?_) | (refine wpList_loadM rfl _ rfl (w.heap.size + 1) rfl (CB.new' _ c (by simp)) ?_))
  cases hdr : drB s c.d.ph c.d.le c.d.ru c.d.he
  · have c1 := dright_any s c.d.ph c.d.le c.d.ru c.d.he ((w.alloc (.cells (sv s).toArray 23)).alloc (.cells #[.int .i64 c.fl, .int .i64 c.tg, .int .i64 c.ti, .int .i64 c.d.ph, .int .i64 c.d.le, .int .i64 c.d.ru, .bool c.d.he, .bool c.fa] 36))
    rw [hdr] at c1
    refine (calls_keepC (bs := w.heap.size) (bc := w.heap.size + 1) c1 (((Below.refl _ w).alloc (Nat.le_refl _) _).alloc (by simp) _) ((SB.new w s).alloc _) (CB.new' _ c (by simp))).mono ?_
    rintro e W1 ⟨rfl, hB, _, _⟩
    have HB1 := Hid.intro' hB
    have HD := Hid.intro' hdr
    clear hB c1 hdr
    go_wp2
    go_ret
    exact ⟨ret_boo (crB_d HD.out).symm, HB1.out⟩
  · have c1 := dright_any s c.d.ph c.d.le c.d.ru c.d.he ((w.alloc (.cells (sv s).toArray 23)).alloc (.cells #[.int .i64 c.fl, .int .i64 c.tg, .int .i64 c.ti, .int .i64 c.d.ph, .int .i64 c.d.le, .int .i64 c.d.ru, .bool c.d.he, .bool c.fa] 36))
    rw [hdr] at c1
    refine (calls_keepC (bs := w.heap.size) (bc := w.heap.size + 1) c1 (((Below.refl _ w).alloc (Nat.le_refl _) _).alloc (by simp) _) ((SB.new w s).alloc _) (CB.new' _ c (by simp))).mono ?_
    rintro e W1 ⟨rfl, hB, hs1, hc1⟩
    have HB1 := Hid.intro' hB
    have HS1 := Hid.intro' hs1
    have HC1 := Hid.intro' hc1
    have HD := Hid.intro' hdr
    have HR := Hid.intro' (drB_rt hdr).1
    clear hB c1 hs1 hc1 hdr
    have a0 := HC1.out.c0
    go_wp2_with (refine wpList_load23g rfl _ rfl w.heap.size s rfl HS1.out ?_)
    clear a0
    cases hf : CM.has s c.fl
    · refine (has_f s _ hf _).mono ?_
      rintro e W2 ⟨rfl, hb⟩
      have HB2 := Hid.intro' (below_class HB1.out hb)
      have HF := Hid.intro' hf
      clear hb hf HB1 HS1 HC1
      go_wp2
      go_ret
      exact ⟨ret_boo (crB_f HF.out).symm, HB2.out⟩
    · refine (calls_keepC (has_t s _ hf _) HB1.out HS1.out HC1.out).mono ?_
      rintro e W2 ⟨rfl, hB, hs1, hc1⟩
      have HB2 := Hid.intro' hB
      have HS2 := Hid.intro' hs1
      have HC2 := Hid.intro' hc1
      have HF := Hid.intro' hf
      clear hB hs1 hc1 hf HB1 HS1 HC1
      have a1 := HC2.out.c1
      go_wp2_with (refine wpList_load23g rfl _ rfl w.heap.size s rfl HS2.out ?_)
      clear a1
      cases ht : CM.has s c.tg
      · refine (has_f s _ ht _).mono ?_
        rintro e W3 ⟨rfl, hb⟩
        have HB3 := Hid.intro' (below_class HB2.out hb)
        have HT := Hid.intro' ht
        clear hb ht HB2 HS2 HC2
        go_wp2
        go_ret
        exact ⟨ret_boo (crB_t HT.out).symm, HB3.out⟩
      · refine (calls_keepC (has_t s _ ht _) HB2.out HS2.out HC2.out).mono ?_
        rintro e W2' ⟨rfl, hB, hs1, hc1⟩
        have HBx := Hid.intro' hB
        have HSx := Hid.intro' hs1
        have HCx := Hid.intro' hc1
        have HW := Hid.intro' (crB_w HD.out HF.out ht)
        clear hB hs1 hc1 ht HB2 HS2 HC2
        go_wp2_with (refine wpList_loadC rfl _ rfl (w.heap.size + 1) rfl HCx.out ?_)
        by_cases hm : c.ti = 0
        · refine (calls_keepC (moves_f c hm _) HBx.out HSx.out HCx.out).mono ?_
          rintro e W3 ⟨rfl, hB, hs1, hc1⟩
          have HB3 := Hid.intro' hB
          have a0 := hc1.c0; have a1 := hc1.c1
          have HM := Hid.intro' hm
          clear hB hs1 hc1 hm HBx HSx HCx
          go_wp2
          go_ret
          refine ⟨ret_boo ?_, HB3.out⟩
          rw [HW.out, crW0 HM.out]
          rfl
        · refine (calls_keepC (moves_t c hm _) HBx.out HSx.out HCx.out).mono ?_
          rintro e W3 ⟨rfl, hB, hs1, hc1⟩
          have HB3 := Hid.intro' hB
          have HS3 := Hid.intro' hs1
          have HC3 := Hid.intro' hc1
          have HM := Hid.intro' hm
          clear hB hs1 hc1 hm HBx HSx HCx
          go_wp2_with fail
          have hs : ∀ w', Below W3.heap.size W3 w' → SB w' w.heap.size s := fun w' h' => HS3.out.below' h'
          have hc : ∀ w', Below W3.heap.size W3 w' → CB w' (w.heap.size + 1) c := fun w' h' => HC3.out.below' h'
          have q0 : ∀ w', Below W3.heap.size W3 w' → w'.cell? ⟨w.heap.size + 1, 0, none⟩ = some (.int .i64 c.fl) := fun w' h' => (HC3.out.below' h').c0
          have q1 : ∀ w', Below W3.heap.size W3 w' → w'.cell? ⟨w.heap.size + 1, 1, none⟩ = some (.int .i64 c.tg) := fun w' h' => (HC3.out.below' h').c1
          have q2 : ∀ w', Below W3.heap.size W3 w' → w'.cell? ⟨w.heap.size + 1, 2, none⟩ = some (.int .i64 c.ti) := fun w' h' => (HC3.out.below' h').c2
          have q3 : ∀ w', Below W3.heap.size W3 w' → w'.cell? ⟨w.heap.size + 1, 3, none⟩ = some (.int .i64 c.d.ph) := fun w' h' => (HC3.out.below' h').c3
          refine wp_region_quiet (C := fun w' => Below W3.heap.size W3 w') (by kernel_rfl) (by kernel_rfl) ((Below.refl _ W3).drew) ?_
          simp only []
          rcases Bool.eq_false_or_eq_true (c.tg != c.fl) with k1 | k1
          · rcases Bool.eq_false_or_eq_true (decide (1 ≤ c.ti)) with k2 | k2
            · rcases Bool.eq_false_or_eq_true (decide (c.ti ≤ SM.trav s c.fl c.tg)) with k3 | k3
              · unfold wpQuiet
                generalize hK : wpQuiet Try.prog _ _ _ _ = K
                go_simp
                refine ⟨_, fun _ _ => rfl, ?_⟩
                subst hK
                unfold wpQuiet
                generalize hK : wpQuiet Try.prog _ _ _ _ = K
                rw [if_pos (by go_simp)]
                refine quiet_load3 _ _ _ rfl rfl q1 ?_
                go_simp
                subst hK
                unfold wpQuiet
                generalize hK : wpQuiet Try.prog _ _ _ _ = K
                go_simp
                refine ⟨_, fun _ _ => rfl, ?_⟩
                subst hK
                unfold wpQuiet
                generalize hK : wpQuiet Try.prog _ _ _ _ = K
                rw [if_pos (by go_simp)]
                refine quiet_load3 _ _ _ rfl rfl q0 ?_
                go_simp
                subst hK
                unfold wpQuiet
                generalize hK : wpQuiet Try.prog _ _ _ _ = K
                go_simp
                refine ⟨_, fun _ _ => rfl, ?_⟩
                subst hK
                unfold wpQuiet
                generalize hK : wpQuiet Try.prog _ _ _ _ = K
                go_simp
                refine ⟨_, fun _ _ => rfl, ?_⟩
                subst hK
                unfold wpQuiet
                generalize hK : wpQuiet Try.prog _ _ _ _ = K
                go_simp
                refine ⟨_, fun _ _ => rfl, ?_⟩
                subst hK
                unfold wpQuiet
                generalize hK : wpQuiet Try.prog _ _ _ _ = K
                rw [if_pos (by go_simp)]
                refine quiet_load3 _ _ _ rfl rfl q2 ?_
                go_simp
                subst hK
                unfold wpQuiet
                generalize hK : wpQuiet Try.prog _ _ _ _ = K
                go_simp
                refine ⟨_, fun _ _ => rfl, ?_⟩
                subst hK
                unfold wpQuiet
                generalize hK : wpQuiet Try.prog _ _ _ _ = K
                go_simp
                refine ⟨_, fun _ _ => rfl, ?_⟩
                subst hK
                unfold wpQuiet
                generalize hK : wpQuiet Try.prog _ _ _ _ = K
                go_simp
                refine ⟨_, fun _ _ => rfl, ?_⟩
                subst hK
                unfold wpQuiet
                generalize hK : wpQuiet Try.prog _ _ _ _ = K
                go_simp
                refine ⟨_, fun _ _ => rfl, ?_⟩
                subst hK
                unfold wpQuiet
                generalize hK : wpQuiet Try.prog _ _ _ _ = K
                rw [if_pos (by go_simp)]
                refine quiet_load3 _ _ _ rfl rfl q2 ?_
                go_simp
                subst hK
                unfold wpQuiet
                generalize hK : wpQuiet Try.prog _ _ _ _ = K
                rw [if_pos (by go_simp)]
                refine quiet_load23 _ w.heap.size s rfl rfl hs ?_
                go_simp
                subst hK
                unfold wpQuiet
                generalize hK : wpQuiet Try.prog _ _ _ _ = K
                go_simp
                refine ⟨_, fun _ _ => rfl, ?_⟩
                subst hK
                unfold wpQuiet
                generalize hK : wpQuiet Try.prog _ _ _ _ = K
                rw [if_pos (by go_simp)]
                refine quiet_load3 _ _ _ rfl rfl q0 ?_
                go_simp
                subst hK
                unfold wpQuiet
                generalize hK : wpQuiet Try.prog _ _ _ _ = K
                go_simp
                refine ⟨_, fun _ _ => rfl, ?_⟩
                subst hK
                unfold wpQuiet
                generalize hK : wpQuiet Try.prog _ _ _ _ = K
                rw [if_pos (by go_simp)]
                refine quiet_load3 _ _ _ rfl rfl q1 ?_
                go_simp
                subst hK
                unfold wpQuiet
                generalize hK : wpQuiet Try.prog _ _ _ _ = K
                go_simp
                refine ⟨_, fun w' hw => (travel_any s HR.out _ _ w').mono fun e w'' hh => ⟨hh.1, below_class hw hh.2⟩, ?_⟩
                subst hK
                unfold wpQuiet
                generalize hK : wpQuiet Try.prog _ _ _ _ = K
                go_simp
                refine ⟨_, fun _ _ => rfl, ?_⟩
                subst hK
                unfold wpQuiet
                generalize hK : wpQuiet Try.prog _ _ _ _ = K
                go_simp
                refine ⟨_, fun _ _ => rfl, ?_⟩
                subst hK
                unfold wpQuiet
                generalize hK : wpQuiet Try.prog _ _ _ _ = K
                go_simp
                refine ⟨_, fun _ _ => rfl, ?_⟩
                subst hK
                unfold wpQuiet
                generalize hK : wpQuiet Try.prog _ _ _ _ = K
                rw [if_pos (by go_simp)]
                refine quiet_loadC _ (w.heap.size + 1) rfl rfl hc ?_
                go_simp
                subst hK
                unfold wpQuiet
                generalize hK : wpQuiet Try.prog _ _ _ _ = K
                go_simp
                refine ⟨_, fun w' hw => (isShutC_any c w').mono fun e w'' hh => ⟨hh.1, below_class hw hh.2⟩, ?_⟩
                subst hK
                unfold wpQuiet
                generalize hK : wpQuiet Try.prog _ _ _ _ = K
                go_simp
                refine ⟨_, fun _ _ => rfl, ?_⟩
                subst hK
                unfold wpQuiet
                generalize hK : wpQuiet Try.prog _ _ _ _ = K
                go_simp
                refine ⟨_, fun _ _ => rfl, ?_⟩
                subst hK
                refine wpQuiet_nil ?_
                intro W5 hb
                have HB5 := Hid.intro' (below_class HB3.out hb)
                clear hb hs hc q0 q1 q2 q3
                go_wp2
                go_ret
                refine ⟨ret_boo ?_, HB5.out⟩
                rw [HW.out, crW1 HM.out]
                simp only [decide_eq_true_eq, bne_iff_ne, ne_eq] at k1 k2 k3
                by_cases hp : c.d.ph = 0 <;> simp [hp, k1, k2, k3]
              · unfold wpQuiet
                generalize hK : wpQuiet Try.prog _ _ _ _ = K
                go_simp
                refine ⟨_, fun _ _ => rfl, ?_⟩
                subst hK
                unfold wpQuiet
                generalize hK : wpQuiet Try.prog _ _ _ _ = K
                rw [if_pos (by go_simp)]
                refine quiet_load3 _ _ _ rfl rfl q1 ?_
                go_simp
                subst hK
                unfold wpQuiet
                generalize hK : wpQuiet Try.prog _ _ _ _ = K
                go_simp
                refine ⟨_, fun _ _ => rfl, ?_⟩
                subst hK
                unfold wpQuiet
                generalize hK : wpQuiet Try.prog _ _ _ _ = K
                rw [if_pos (by go_simp)]
                refine quiet_load3 _ _ _ rfl rfl q0 ?_
                go_simp
                subst hK
                unfold wpQuiet
                generalize hK : wpQuiet Try.prog _ _ _ _ = K
                go_simp
                refine ⟨_, fun _ _ => rfl, ?_⟩
                subst hK
                unfold wpQuiet
                generalize hK : wpQuiet Try.prog _ _ _ _ = K
                go_simp
                refine ⟨_, fun _ _ => rfl, ?_⟩
                subst hK
                unfold wpQuiet
                generalize hK : wpQuiet Try.prog _ _ _ _ = K
                go_simp
                refine ⟨_, fun _ _ => rfl, ?_⟩
                subst hK
                unfold wpQuiet
                generalize hK : wpQuiet Try.prog _ _ _ _ = K
                rw [if_pos (by go_simp)]
                refine quiet_load3 _ _ _ rfl rfl q2 ?_
                go_simp
                subst hK
                unfold wpQuiet
                generalize hK : wpQuiet Try.prog _ _ _ _ = K
                go_simp
                refine ⟨_, fun _ _ => rfl, ?_⟩
                subst hK
                unfold wpQuiet
                generalize hK : wpQuiet Try.prog _ _ _ _ = K
                go_simp
                refine ⟨_, fun _ _ => rfl, ?_⟩
                subst hK
                unfold wpQuiet
                generalize hK : wpQuiet Try.prog _ _ _ _ = K
                go_simp
                refine ⟨_, fun _ _ => rfl, ?_⟩
                subst hK
                unfold wpQuiet
                generalize hK : wpQuiet Try.prog _ _ _ _ = K
                go_simp
                refine ⟨_, fun _ _ => rfl, ?_⟩
                subst hK
                unfold wpQuiet
                generalize hK : wpQuiet Try.prog _ _ _ _ = K
                rw [if_pos (by go_simp)]
                refine quiet_load3 _ _ _ rfl rfl q2 ?_
                go_simp
                subst hK
                unfold wpQuiet
                generalize hK : wpQuiet Try.prog _ _ _ _ = K
                rw [if_pos (by go_simp)]
                refine quiet_load23 _ w.heap.size s rfl rfl hs ?_
                go_simp
                subst hK
                unfold wpQuiet
                generalize hK : wpQuiet Try.prog _ _ _ _ = K
                go_simp
                refine ⟨_, fun _ _ => rfl, ?_⟩
                subst hK
                unfold wpQuiet
                generalize hK : wpQuiet Try.prog _ _ _ _ = K
                rw [if_pos (by go_simp)]
                refine quiet_load3 _ _ _ rfl rfl q0 ?_
                go_simp
                subst hK
                unfold wpQuiet
                generalize hK : wpQuiet Try.prog _ _ _ _ = K
                go_simp
                refine ⟨_, fun _ _ => rfl, ?_⟩
                subst hK
                unfold wpQuiet
                generalize hK : wpQuiet Try.prog _ _ _ _ = K
                rw [if_pos (by go_simp)]
                refine quiet_load3 _ _ _ rfl rfl q1 ?_
                go_simp
                subst hK
                unfold wpQuiet
                generalize hK : wpQuiet Try.prog _ _ _ _ = K
                go_simp
                refine ⟨_, fun w' hw => (travel_any s HR.out _ _ w').mono fun e w'' hh => ⟨hh.1, below_class hw hh.2⟩, ?_⟩
                subst hK
                unfold wpQuiet
                generalize hK : wpQuiet Try.prog _ _ _ _ = K
                go_simp
                refine ⟨_, fun _ _ => rfl, ?_⟩
                subst hK
                unfold wpQuiet
                generalize hK : wpQuiet Try.prog _ _ _ _ = K
                go_simp
                refine ⟨_, fun _ _ => rfl, ?_⟩
                subst hK
                unfold wpQuiet
                generalize hK : wpQuiet Try.prog _ _ _ _ = K
                go_simp
                refine ⟨_, fun _ _ => rfl, ?_⟩
                subst hK
                unfold wpQuiet
                generalize hK : wpQuiet Try.prog _ _ _ _ = K
                go_simp
                subst hK
                unfold wpQuiet
                generalize hK : wpQuiet Try.prog _ _ _ _ = K
                go_simp
                subst hK
                unfold wpQuiet
                generalize hK : wpQuiet Try.prog _ _ _ _ = K
                go_simp
                refine ⟨_, fun _ _ => rfl, ?_⟩
                subst hK
                unfold wpQuiet
                generalize hK : wpQuiet Try.prog _ _ _ _ = K
                go_simp
                refine ⟨_, fun _ _ => rfl, ?_⟩
                subst hK
                refine wpQuiet_nil ?_
                intro W5 hb
                have HB5 := Hid.intro' (below_class HB3.out hb)
                clear hb hs hc q0 q1 q2 q3
                go_wp2
                go_ret
                refine ⟨ret_boo ?_, HB5.out⟩
                rw [HW.out, crW1 HM.out]
                simp only [decide_eq_false_iff_not] at k3
                symm; rw [decide_eq_false_iff_not]; omega
            · unfold wpQuiet
              generalize hK : wpQuiet Try.prog _ _ _ _ = K
              go_simp
              refine ⟨_, fun _ _ => rfl, ?_⟩
              subst hK
              unfold wpQuiet
              generalize hK : wpQuiet Try.prog _ _ _ _ = K
              rw [if_pos (by go_simp)]
              refine quiet_load3 _ _ _ rfl rfl q1 ?_
              go_simp
              subst hK
              unfold wpQuiet
              generalize hK : wpQuiet Try.prog _ _ _ _ = K
              go_simp
              refine ⟨_, fun _ _ => rfl, ?_⟩
              subst hK
              unfold wpQuiet
              generalize hK : wpQuiet Try.prog _ _ _ _ = K
              rw [if_pos (by go_simp)]
              refine quiet_load3 _ _ _ rfl rfl q0 ?_
              go_simp
              subst hK
              unfold wpQuiet
              generalize hK : wpQuiet Try.prog _ _ _ _ = K
              go_simp
              refine ⟨_, fun _ _ => rfl, ?_⟩
              subst hK
              unfold wpQuiet
              generalize hK : wpQuiet Try.prog _ _ _ _ = K
              go_simp
              refine ⟨_, fun _ _ => rfl, ?_⟩
              subst hK
              unfold wpQuiet
              generalize hK : wpQuiet Try.prog _ _ _ _ = K
              go_simp
              refine ⟨_, fun _ _ => rfl, ?_⟩
              subst hK
              unfold wpQuiet
              generalize hK : wpQuiet Try.prog _ _ _ _ = K
              rw [if_pos (by go_simp)]
              refine quiet_load3 _ _ _ rfl rfl q2 ?_
              go_simp
              subst hK
              unfold wpQuiet
              generalize hK : wpQuiet Try.prog _ _ _ _ = K
              go_simp
              refine ⟨_, fun _ _ => rfl, ?_⟩
              subst hK
              unfold wpQuiet
              generalize hK : wpQuiet Try.prog _ _ _ _ = K
              go_simp
              refine ⟨_, fun _ _ => rfl, ?_⟩
              subst hK
              unfold wpQuiet
              generalize hK : wpQuiet Try.prog _ _ _ _ = K
              go_simp
              refine ⟨_, fun _ _ => rfl, ?_⟩
              subst hK
              unfold wpQuiet
              generalize hK : wpQuiet Try.prog _ _ _ _ = K
              go_simp
              subst hK
              unfold wpQuiet
              generalize hK : wpQuiet Try.prog _ _ _ _ = K
              go_simp
              subst hK
              unfold wpQuiet
              generalize hK : wpQuiet Try.prog _ _ _ _ = K
              go_simp
              subst hK
              unfold wpQuiet
              generalize hK : wpQuiet Try.prog _ _ _ _ = K
              go_simp
              subst hK
              unfold wpQuiet
              generalize hK : wpQuiet Try.prog _ _ _ _ = K
              go_simp
              subst hK
              unfold wpQuiet
              generalize hK : wpQuiet Try.prog _ _ _ _ = K
              go_simp
              subst hK
              unfold wpQuiet
              generalize hK : wpQuiet Try.prog _ _ _ _ = K
              go_simp
              subst hK
              unfold wpQuiet
              generalize hK : wpQuiet Try.prog _ _ _ _ = K
              go_simp
              subst hK
              unfold wpQuiet
              generalize hK : wpQuiet Try.prog _ _ _ _ = K
              go_simp
              subst hK
              unfold wpQuiet
              generalize hK : wpQuiet Try.prog _ _ _ _ = K
              go_simp
              refine ⟨_, fun _ _ => rfl, ?_⟩
              subst hK
              unfold wpQuiet
              generalize hK : wpQuiet Try.prog _ _ _ _ = K
              go_simp
              refine ⟨_, fun _ _ => rfl, ?_⟩
              subst hK
              unfold wpQuiet
              generalize hK : wpQuiet Try.prog _ _ _ _ = K
              go_simp
              subst hK
              unfold wpQuiet
              generalize hK : wpQuiet Try.prog _ _ _ _ = K
              go_simp
              subst hK
              unfold wpQuiet
              generalize hK : wpQuiet Try.prog _ _ _ _ = K
              go_simp
              refine ⟨_, fun _ _ => rfl, ?_⟩
              subst hK
              unfold wpQuiet
              generalize hK : wpQuiet Try.prog _ _ _ _ = K
              go_simp
              refine ⟨_, fun _ _ => rfl, ?_⟩
              subst hK
              refine wpQuiet_nil ?_
              intro W5 hb
              have HB5 := Hid.intro' (below_class HB3.out hb)
              clear hb hs hc q0 q1 q2 q3
              go_wp2
              go_ret
              refine ⟨ret_boo ?_, HB5.out⟩
              rw [HW.out, crW1 HM.out]
              simp only [decide_eq_false_iff_not] at k2
              symm; rw [decide_eq_false_iff_not]; omega
          · unfold wpQuiet
            generalize hK : wpQuiet Try.prog _ _ _ _ = K
            go_simp
            refine ⟨_, fun _ _ => rfl, ?_⟩
            subst hK
            unfold wpQuiet
            generalize hK : wpQuiet Try.prog _ _ _ _ = K
            rw [if_pos (by go_simp)]
            refine quiet_load3 _ _ _ rfl rfl q1 ?_
            go_simp
            subst hK
            unfold wpQuiet
            generalize hK : wpQuiet Try.prog _ _ _ _ = K
            go_simp
            refine ⟨_, fun _ _ => rfl, ?_⟩
            subst hK
            unfold wpQuiet
            generalize hK : wpQuiet Try.prog _ _ _ _ = K
            rw [if_pos (by go_simp)]
            refine quiet_load3 _ _ _ rfl rfl q0 ?_
            go_simp
            subst hK
            unfold wpQuiet
            generalize hK : wpQuiet Try.prog _ _ _ _ = K
            go_simp
            refine ⟨_, fun _ _ => rfl, ?_⟩
            subst hK
            unfold wpQuiet
            generalize hK : wpQuiet Try.prog _ _ _ _ = K
            go_simp
            refine ⟨_, fun _ _ => rfl, ?_⟩
            subst hK
            unfold wpQuiet
            generalize hK : wpQuiet Try.prog _ _ _ _ = K
            go_simp
            subst hK
            unfold wpQuiet
            generalize hK : wpQuiet Try.prog _ _ _ _ = K
            go_simp
            subst hK
            unfold wpQuiet
            generalize hK : wpQuiet Try.prog _ _ _ _ = K
            go_simp
            subst hK
            unfold wpQuiet
            generalize hK : wpQuiet Try.prog _ _ _ _ = K
            go_simp
            refine ⟨_, fun _ _ => rfl, ?_⟩
            subst hK
            unfold wpQuiet
            generalize hK : wpQuiet Try.prog _ _ _ _ = K
            go_simp
            refine ⟨_, fun _ _ => rfl, ?_⟩
            subst hK
            unfold wpQuiet
            generalize hK : wpQuiet Try.prog _ _ _ _ = K
            go_simp
            subst hK
            unfold wpQuiet
            generalize hK : wpQuiet Try.prog _ _ _ _ = K
            go_simp
            subst hK
            unfold wpQuiet
            generalize hK : wpQuiet Try.prog _ _ _ _ = K
            go_simp
            subst hK
            unfold wpQuiet
            generalize hK : wpQuiet Try.prog _ _ _ _ = K
            go_simp
            subst hK
            unfold wpQuiet
            generalize hK : wpQuiet Try.prog _ _ _ _ = K
            go_simp
            subst hK
            unfold wpQuiet
            generalize hK : wpQuiet Try.prog _ _ _ _ = K
            go_simp
            subst hK
            unfold wpQuiet
            generalize hK : wpQuiet Try.prog _ _ _ _ = K
            go_simp
            subst hK
            unfold wpQuiet
            generalize hK : wpQuiet Try.prog _ _ _ _ = K
            go_simp
            subst hK
            unfold wpQuiet
            generalize hK : wpQuiet Try.prog _ _ _ _ = K
            go_simp
            subst hK
            unfold wpQuiet
            generalize hK : wpQuiet Try.prog _ _ _ _ = K
            go_simp
            refine ⟨_, fun _ _ => rfl, ?_⟩
            subst hK
            unfold wpQuiet
            generalize hK : wpQuiet Try.prog _ _ _ _ = K
            go_simp
            refine ⟨_, fun _ _ => rfl, ?_⟩
            subst hK
            unfold wpQuiet
            generalize hK : wpQuiet Try.prog _ _ _ _ = K
            go_simp
            subst hK
            unfold wpQuiet
            generalize hK : wpQuiet Try.prog _ _ _ _ = K
            go_simp
            subst hK
            unfold wpQuiet
            generalize hK : wpQuiet Try.prog _ _ _ _ = K
            go_simp
            refine ⟨_, fun _ _ => rfl, ?_⟩
            subst hK
            unfold wpQuiet
            generalize hK : wpQuiet Try.prog _ _ _ _ = K
            go_simp
            refine ⟨_, fun _ _ => rfl, ?_⟩
            subst hK
            refine wpQuiet_nil ?_
            intro W5 hb
            have HB5 := Hid.intro' (below_class HB3.out hb)
            clear hb hs hc q0 q1 q2 q3
            go_wp2
            go_ret
            refine ⟨ret_boo ?_, HB5.out⟩
            rw [HW.out, crW1 HM.out]
            simp only [bne_eq_false_iff_eq] at k1
            symm; rw [decide_eq_false_iff_not]; omega

set_option maxHeartbeats 4000000 in
theorem rcright_any (s : St) (c : Cr) (w : World) :
    Calls Try.prog 11 #[.agg (sv s).toArray, .agg #[.int .i64 c.fl, .int .i64 c.tg, .int .i64 c.ti, .int .i64 c.d.ph, .int .i64 c.d.le, .int .i64 c.d.ru, .bool c.d.he, .bool c.fa]] w fun e w' => e = .returned (.bool (crB s c)) ∧ Below w.heap.size w w' := by
  go_enter Try.func11, Try.ntmps11
  go_wp2_with (first | (refine wpList_load23 rfl _ rfl w.heap.size s rfl ((SB.new w s).alloc _) ?_) | (refine wpList_loadM rfl _ rfl (w.heap.size + 1) rfl (CB.new' _ c (by simp)) ?_))
  cases hdr : drB s c.d.ph c.d.le c.d.ru c.d.he
  · have c1 := rdright_any s c.d.ph c.d.le c.d.ru c.d.he ((w.alloc (.cells (sv s).toArray 23)).alloc (.cells #[.int .i64 c.fl, .int .i64 c.tg, .int .i64 c.ti, .int .i64 c.d.ph, .int .i64 c.d.le, .int .i64 c.d.ru, .bool c.d.he, .bool c.fa] 36))
    rw [hdr] at c1
    refine (calls_keepC (bs := w.heap.size) (bc := w.heap.size + 1) c1 (((Below.refl _ w).alloc (Nat.le_refl _) _).alloc (by simp) _) ((SB.new w s).alloc _) (CB.new' _ c (by simp))).mono ?_
    rintro e W1 ⟨rfl, hB, _, _⟩
    have HB1 := Hid.intro' hB
    have HD := Hid.intro' hdr
    clear hB c1 hdr
    go_wp2
    go_ret
    exact ⟨ret_boo (crB_d HD.out).symm, HB1.out⟩
  · have c1 := rdright_any s c.d.ph c.d.le c.d.ru c.d.he ((w.alloc (.cells (sv s).toArray 23)).alloc (.cells #[.int .i64 c.fl, .int .i64 c.tg, .int .i64 c.ti, .int .i64 c.d.ph, .int .i64 c.d.le, .int .i64 c.d.ru, .bool c.d.he, .bool c.fa] 36))
    rw [hdr] at c1
    refine (calls_keepC (bs := w.heap.size) (bc := w.heap.size + 1) c1 (((Below.refl _ w).alloc (Nat.le_refl _) _).alloc (by simp) _) ((SB.new w s).alloc _) (CB.new' _ c (by simp))).mono ?_
    rintro e W3 ⟨rfl, hB, hs1, hc1⟩
    have HB3 := Hid.intro' hB
    have HS3 := Hid.intro' hs1
    have HC3 := Hid.intro' hc1
    have HD := Hid.intro' hdr
    have HR := Hid.intro' (drB_rt hdr).1
    have a0 := hc1.c0; have a1 := hc1.c1; have a2 := hc1.c2
    have b0 : W3.cell? ⟨w.heap.size, 0, none⟩ = some (.int .i64 s.fl) := hs1.cell 0
    clear hB c1 hs1 hc1 hdr
    cases hf : CM.has s c.fl
    · have hf' : ¬ (0 ≤ c.fl ∧ c.fl < s.fl) := by rw [← has_iff, hf]; simp
      have HF := Hid.intro' hf
      clear hf
      by_cases h0 : c.fl < 0
      · clear hf'
        go_wp2
        go_ret
        exact ⟨ret_boo (crB_f HF.out).symm, HB3.out⟩
      · have h1 : s.fl ≤ c.fl := by omega
        have h0' : 0 ≤ c.fl := by omega
        clear hf' h0
        go_wp2
        go_ret
        exact ⟨ret_boo (crB_f HF.out).symm, HB3.out⟩
    · have hf' := has_iff.1 hf
      obtain ⟨f1, f2⟩ := hf'
      have HF := Hid.intro' hf
      clear hf
      cases ht : CM.has s c.tg
      · have ht' : ¬ (0 ≤ c.tg ∧ c.tg < s.fl) := by rw [← has_iff, ht]; simp
        have HT := Hid.intro' ht
        clear ht
        by_cases h0 : c.tg < 0
        · clear ht'
          go_wp2
          go_ret
          exact ⟨ret_boo (crB_t HT.out).symm, HB3.out⟩
        · have h1 : s.fl ≤ c.tg := by omega
          have h0' : 0 ≤ c.tg := by omega
          clear ht' h0
          go_wp2
          go_ret
          exact ⟨ret_boo (crB_t HT.out).symm, HB3.out⟩
      · have ht' := has_iff.1 ht
        obtain ⟨t1, t2⟩ := ht'
        have HW := Hid.intro' (crB_w HD.out HF.out ht)
        clear ht
        by_cases hm : c.ti = 0
        · have HM := Hid.intro' hm
          have hm' : (c.ti == 0) = true := by simpa using hm
          clear hm
          go_wp2
          go_ret
          refine ⟨ret_boo ?_, HB3.out⟩
          rw [HW.out, crW0 HM.out]
          rfl
        · have HM := Hid.intro' hm
          have hm' : (c.ti == 0) = false := by simpa using hm
          clear hm
          go_wp2_with fail
          clear a0 a1 a2 b0
          have hs : ∀ w', Below W3.heap.size W3 w' → SB w' w.heap.size s := fun w' h' => HS3.out.below' h'
          have hc : ∀ w', Below W3.heap.size W3 w' → CB w' (w.heap.size + 1) c := fun w' h' => HC3.out.below' h'
          have q0 : ∀ w', Below W3.heap.size W3 w' → w'.cell? ⟨w.heap.size + 1, 0, none⟩ = some (.int .i64 c.fl) := fun w' h' => (HC3.out.below' h').c0
          have q1 : ∀ w', Below W3.heap.size W3 w' → w'.cell? ⟨w.heap.size + 1, 1, none⟩ = some (.int .i64 c.tg) := fun w' h' => (HC3.out.below' h').c1
          have q2 : ∀ w', Below W3.heap.size W3 w' → w'.cell? ⟨w.heap.size + 1, 2, none⟩ = some (.int .i64 c.ti) := fun w' h' => (HC3.out.below' h').c2
          have q3 : ∀ w', Below W3.heap.size W3 w' → w'.cell? ⟨w.heap.size + 1, 3, none⟩ = some (.int .i64 c.d.ph) := fun w' h' => (HC3.out.below' h').c3
          refine wp_region_quiet (C := fun w' => Below W3.heap.size W3 w') (by kernel_rfl) (by kernel_rfl) ((Below.refl _ W3).drew) ?_
          simp only []
          rcases Bool.eq_false_or_eq_true (decide (0 < c.ti)) with k1 | k1
          · rcases Bool.eq_false_or_eq_true (c.tg != c.fl) with k2 | k2
            · rcases Bool.eq_false_or_eq_true (c.d.ph == 0) with k3 | k3
              · unfold wpQuiet
                generalize hK : wpQuiet Try.prog _ _ _ _ = K
                go_simp
                refine ⟨_, fun _ _ => rfl, ?_⟩
                subst hK
                unfold wpQuiet
                generalize hK : wpQuiet Try.prog _ _ _ _ = K
                rw [if_pos (by go_simp)]
                refine quiet_load3 _ _ _ rfl rfl q2 ?_
                go_simp
                subst hK
                unfold wpQuiet
                generalize hK : wpQuiet Try.prog _ _ _ _ = K
                go_simp
                refine ⟨_, fun _ _ => rfl, ?_⟩
                subst hK
                unfold wpQuiet
                generalize hK : wpQuiet Try.prog _ _ _ _ = K
                go_simp
                refine ⟨_, fun _ _ => rfl, ?_⟩
                subst hK
                unfold wpQuiet
                generalize hK : wpQuiet Try.prog _ _ _ _ = K
                go_simp
                refine ⟨_, fun _ _ => rfl, ?_⟩
                subst hK
                unfold wpQuiet
                generalize hK : wpQuiet Try.prog _ _ _ _ = K
                rw [if_pos (by go_simp)]
                refine quiet_load3 _ _ _ rfl rfl q1 ?_
                go_simp
                subst hK
                unfold wpQuiet
                generalize hK : wpQuiet Try.prog _ _ _ _ = K
                go_simp
                refine ⟨_, fun _ _ => rfl, ?_⟩
                subst hK
                unfold wpQuiet
                generalize hK : wpQuiet Try.prog _ _ _ _ = K
                rw [if_pos (by go_simp)]
                refine quiet_load3 _ _ _ rfl rfl q0 ?_
                go_simp
                subst hK
                unfold wpQuiet
                generalize hK : wpQuiet Try.prog _ _ _ _ = K
                go_simp
                refine ⟨_, fun _ _ => rfl, ?_⟩
                subst hK
                unfold wpQuiet
                generalize hK : wpQuiet Try.prog _ _ _ _ = K
                go_simp
                refine ⟨_, fun _ _ => rfl, ?_⟩
                subst hK
                unfold wpQuiet
                generalize hK : wpQuiet Try.prog _ _ _ _ = K
                go_simp
                refine ⟨_, fun _ _ => rfl, ?_⟩
                subst hK
                unfold wpQuiet
                generalize hK : wpQuiet Try.prog _ _ _ _ = K
                go_simp
                refine ⟨_, fun _ _ => rfl, ?_⟩
                subst hK
                unfold wpQuiet
                generalize hK : wpQuiet Try.prog _ _ _ _ = K
                go_simp
                refine ⟨_, fun _ _ => rfl, ?_⟩
                subst hK
                unfold wpQuiet
                generalize hK : wpQuiet Try.prog _ _ _ _ = K
                rw [if_pos (by go_simp)]
                refine quiet_load3 _ _ _ rfl rfl q3 ?_
                go_simp
                subst hK
                unfold wpQuiet
                generalize hK : wpQuiet Try.prog _ _ _ _ = K
                go_simp
                refine ⟨_, fun _ _ => rfl, ?_⟩
                subst hK
                unfold wpQuiet
                generalize hK : wpQuiet Try.prog _ _ _ _ = K
                go_simp
                refine ⟨_, fun _ _ => rfl, ?_⟩
                subst hK
                unfold wpQuiet
                generalize hK : wpQuiet Try.prog _ _ _ _ = K
                go_simp
                refine ⟨_, fun _ _ => rfl, ?_⟩
                subst hK
                unfold wpQuiet
                generalize hK : wpQuiet Try.prog _ _ _ _ = K
                go_simp
                refine ⟨_, fun _ _ => rfl, ?_⟩
                subst hK
                unfold wpQuiet
                generalize hK : wpQuiet Try.prog _ _ _ _ = K
                rw [if_pos (by go_simp)]
                refine quiet_load3 _ _ _ rfl rfl q2 ?_
                go_simp
                subst hK
                unfold wpQuiet
                generalize hK : wpQuiet Try.prog _ _ _ _ = K
                rw [if_pos (by go_simp)]
                refine quiet_load23 _ w.heap.size s rfl rfl hs ?_
                go_simp
                subst hK
                unfold wpQuiet
                generalize hK : wpQuiet Try.prog _ _ _ _ = K
                go_simp
                refine ⟨_, fun _ _ => rfl, ?_⟩
                subst hK
                unfold wpQuiet
                generalize hK : wpQuiet Try.prog _ _ _ _ = K
                rw [if_pos (by go_simp)]
                refine quiet_load3 _ _ _ rfl rfl q0 ?_
                go_simp
                subst hK
                unfold wpQuiet
                generalize hK : wpQuiet Try.prog _ _ _ _ = K
                go_simp
                refine ⟨_, fun _ _ => rfl, ?_⟩
                subst hK
                unfold wpQuiet
                generalize hK : wpQuiet Try.prog _ _ _ _ = K
                rw [if_pos (by go_simp)]
                refine quiet_load3 _ _ _ rfl rfl q1 ?_
                go_simp
                subst hK
                unfold wpQuiet
                generalize hK : wpQuiet Try.prog _ _ _ _ = K
                go_simp
                refine ⟨_, fun w' hw => (rtravel_any s HR.out _ _ w').mono fun e w'' hh => ⟨hh.1, below_class hw hh.2⟩, ?_⟩
                subst hK
                unfold wpQuiet
                generalize hK : wpQuiet Try.prog _ _ _ _ = K
                go_simp
                refine ⟨_, fun _ _ => rfl, ?_⟩
                subst hK
                unfold wpQuiet
                generalize hK : wpQuiet Try.prog _ _ _ _ = K
                go_simp
                refine ⟨_, fun _ _ => rfl, ?_⟩
                subst hK
                unfold wpQuiet
                generalize hK : wpQuiet Try.prog _ _ _ _ = K
                go_simp
                refine ⟨_, fun _ _ => rfl, ?_⟩
                subst hK
                refine wpQuiet_nil ?_
                intro W5 hb
                have HB5 := Hid.intro' (below_class HB3.out hb)
                clear hb hs hc q0 q1 q2 q3
                go_wp2
                go_ret
                refine ⟨ret_boo ?_, HB5.out⟩
                rw [HW.out, crW1 HM.out]
                simp only [decide_eq_true_eq, bne_iff_ne, ne_eq, beq_iff_eq] at k1 k2 k3
                have k1' : 1 ≤ c.ti := by omega
                simp [k1', k2, k3]
              · unfold wpQuiet
                generalize hK : wpQuiet Try.prog _ _ _ _ = K
                go_simp
                refine ⟨_, fun _ _ => rfl, ?_⟩
                subst hK
                unfold wpQuiet
                generalize hK : wpQuiet Try.prog _ _ _ _ = K
                rw [if_pos (by go_simp)]
                refine quiet_load3 _ _ _ rfl rfl q2 ?_
                go_simp
                subst hK
                unfold wpQuiet
                generalize hK : wpQuiet Try.prog _ _ _ _ = K
                go_simp
                refine ⟨_, fun _ _ => rfl, ?_⟩
                subst hK
                unfold wpQuiet
                generalize hK : wpQuiet Try.prog _ _ _ _ = K
                go_simp
                refine ⟨_, fun _ _ => rfl, ?_⟩
                subst hK
                unfold wpQuiet
                generalize hK : wpQuiet Try.prog _ _ _ _ = K
                go_simp
                refine ⟨_, fun _ _ => rfl, ?_⟩
                subst hK
                unfold wpQuiet
                generalize hK : wpQuiet Try.prog _ _ _ _ = K
                rw [if_pos (by go_simp)]
                refine quiet_load3 _ _ _ rfl rfl q1 ?_
                go_simp
                subst hK
                unfold wpQuiet
                generalize hK : wpQuiet Try.prog _ _ _ _ = K
                go_simp
                refine ⟨_, fun _ _ => rfl, ?_⟩
                subst hK
                unfold wpQuiet
                generalize hK : wpQuiet Try.prog _ _ _ _ = K
                rw [if_pos (by go_simp)]
                refine quiet_load3 _ _ _ rfl rfl q0 ?_
                go_simp
                subst hK
                unfold wpQuiet
                generalize hK : wpQuiet Try.prog _ _ _ _ = K
                go_simp
                refine ⟨_, fun _ _ => rfl, ?_⟩
                subst hK
                unfold wpQuiet
                generalize hK : wpQuiet Try.prog _ _ _ _ = K
                go_simp
                refine ⟨_, fun _ _ => rfl, ?_⟩
                subst hK
                unfold wpQuiet
                generalize hK : wpQuiet Try.prog _ _ _ _ = K
                go_simp
                refine ⟨_, fun _ _ => rfl, ?_⟩
                subst hK
                unfold wpQuiet
                generalize hK : wpQuiet Try.prog _ _ _ _ = K
                go_simp
                refine ⟨_, fun _ _ => rfl, ?_⟩
                subst hK
                unfold wpQuiet
                generalize hK : wpQuiet Try.prog _ _ _ _ = K
                go_simp
                refine ⟨_, fun _ _ => rfl, ?_⟩
                subst hK
                unfold wpQuiet
                generalize hK : wpQuiet Try.prog _ _ _ _ = K
                rw [if_pos (by go_simp)]
                refine quiet_load3 _ _ _ rfl rfl q3 ?_
                go_simp
                subst hK
                unfold wpQuiet
                generalize hK : wpQuiet Try.prog _ _ _ _ = K
                go_simp
                refine ⟨_, fun _ _ => rfl, ?_⟩
                subst hK
                unfold wpQuiet
                generalize hK : wpQuiet Try.prog _ _ _ _ = K
                go_simp
                refine ⟨_, fun _ _ => rfl, ?_⟩
                subst hK
                unfold wpQuiet
                generalize hK : wpQuiet Try.prog _ _ _ _ = K
                go_simp
                refine ⟨_, fun _ _ => rfl, ?_⟩
                subst hK
                unfold wpQuiet
                generalize hK : wpQuiet Try.prog _ _ _ _ = K
                go_simp
                subst hK
                unfold wpQuiet
                generalize hK : wpQuiet Try.prog _ _ _ _ = K
                go_simp
                subst hK
                unfold wpQuiet
                generalize hK : wpQuiet Try.prog _ _ _ _ = K
                go_simp
                subst hK
                unfold wpQuiet
                generalize hK : wpQuiet Try.prog _ _ _ _ = K
                go_simp
                subst hK
                unfold wpQuiet
                generalize hK : wpQuiet Try.prog _ _ _ _ = K
                go_simp
                subst hK
                unfold wpQuiet
                generalize hK : wpQuiet Try.prog _ _ _ _ = K
                go_simp
                subst hK
                unfold wpQuiet
                generalize hK : wpQuiet Try.prog _ _ _ _ = K
                go_simp
                subst hK
                unfold wpQuiet
                generalize hK : wpQuiet Try.prog _ _ _ _ = K
                go_simp
                subst hK
                unfold wpQuiet
                generalize hK : wpQuiet Try.prog _ _ _ _ = K
                go_simp
                subst hK
                unfold wpQuiet
                generalize hK : wpQuiet Try.prog _ _ _ _ = K
                go_simp
                refine ⟨_, fun _ _ => rfl, ?_⟩
                subst hK
                unfold wpQuiet
                generalize hK : wpQuiet Try.prog _ _ _ _ = K
                go_simp
                refine ⟨_, fun _ _ => rfl, ?_⟩
                subst hK
                refine wpQuiet_nil ?_
                intro W5 hb
                have HB5 := Hid.intro' (below_class HB3.out hb)
                clear hb hs hc q0 q1 q2 q3
                go_wp2
                go_ret
                refine ⟨ret_boo ?_, HB5.out⟩
                rw [HW.out, crW1 HM.out]
                simp only [beq_eq_false_iff_ne, ne_eq] at k3
                symm; rw [decide_eq_false_iff_not]; omega
            · unfold wpQuiet
              generalize hK : wpQuiet Try.prog _ _ _ _ = K
              go_simp
              refine ⟨_, fun _ _ => rfl, ?_⟩
              subst hK
              unfold wpQuiet
              generalize hK : wpQuiet Try.prog _ _ _ _ = K
              rw [if_pos (by go_simp)]
              refine quiet_load3 _ _ _ rfl rfl q2 ?_
              go_simp
              subst hK
              unfold wpQuiet
              generalize hK : wpQuiet Try.prog _ _ _ _ = K
              go_simp
              refine ⟨_, fun _ _ => rfl, ?_⟩
              subst hK
              unfold wpQuiet
              generalize hK : wpQuiet Try.prog _ _ _ _ = K
              go_simp
              refine ⟨_, fun _ _ => rfl, ?_⟩
              subst hK
              unfold wpQuiet
              generalize hK : wpQuiet Try.prog _ _ _ _ = K
              go_simp
              refine ⟨_, fun _ _ => rfl, ?_⟩
              subst hK
              unfold wpQuiet
              generalize hK : wpQuiet Try.prog _ _ _ _ = K
              rw [if_pos (by go_simp)]
              refine quiet_load3 _ _ _ rfl rfl q1 ?_
              go_simp
              subst hK
              unfold wpQuiet
              generalize hK : wpQuiet Try.prog _ _ _ _ = K
              go_simp
              refine ⟨_, fun _ _ => rfl, ?_⟩
              subst hK
              unfold wpQuiet
              generalize hK : wpQuiet Try.prog _ _ _ _ = K
              rw [if_pos (by go_simp)]
              refine quiet_load3 _ _ _ rfl rfl q0 ?_
              go_simp
              subst hK
              unfold wpQuiet
              generalize hK : wpQuiet Try.prog _ _ _ _ = K
              go_simp
              refine ⟨_, fun _ _ => rfl, ?_⟩
              subst hK
              unfold wpQuiet
              generalize hK : wpQuiet Try.prog _ _ _ _ = K
              go_simp
              refine ⟨_, fun _ _ => rfl, ?_⟩
              subst hK
              unfold wpQuiet
              generalize hK : wpQuiet Try.prog _ _ _ _ = K
              go_simp
              refine ⟨_, fun _ _ => rfl, ?_⟩
              subst hK
              unfold wpQuiet
              generalize hK : wpQuiet Try.prog _ _ _ _ = K
              go_simp
              subst hK
              unfold wpQuiet
              generalize hK : wpQuiet Try.prog _ _ _ _ = K
              go_simp
              subst hK
              unfold wpQuiet
              generalize hK : wpQuiet Try.prog _ _ _ _ = K
              go_simp
              subst hK
              unfold wpQuiet
              generalize hK : wpQuiet Try.prog _ _ _ _ = K
              go_simp
              subst hK
              unfold wpQuiet
              generalize hK : wpQuiet Try.prog _ _ _ _ = K
              go_simp
              refine ⟨_, fun _ _ => rfl, ?_⟩
              subst hK
              unfold wpQuiet
              generalize hK : wpQuiet Try.prog _ _ _ _ = K
              go_simp
              refine ⟨_, fun _ _ => rfl, ?_⟩
              subst hK
              unfold wpQuiet
              generalize hK : wpQuiet Try.prog _ _ _ _ = K
              go_simp
              subst hK
              unfold wpQuiet
              generalize hK : wpQuiet Try.prog _ _ _ _ = K
              go_simp
              subst hK
              unfold wpQuiet
              generalize hK : wpQuiet Try.prog _ _ _ _ = K
              go_simp
              subst hK
              unfold wpQuiet
              generalize hK : wpQuiet Try.prog _ _ _ _ = K
              go_simp
              subst hK
              unfold wpQuiet
              generalize hK : wpQuiet Try.prog _ _ _ _ = K
              go_simp
              subst hK
              unfold wpQuiet
              generalize hK : wpQuiet Try.prog _ _ _ _ = K
              go_simp
              subst hK
              unfold wpQuiet
              generalize hK : wpQuiet Try.prog _ _ _ _ = K
              go_simp
              subst hK
              unfold wpQuiet
              generalize hK : wpQuiet Try.prog _ _ _ _ = K
              go_simp
              subst hK
              unfold wpQuiet
              generalize hK : wpQuiet Try.prog _ _ _ _ = K
              go_simp
              subst hK
              unfold wpQuiet
              generalize hK : wpQuiet Try.prog _ _ _ _ = K
              go_simp
              refine ⟨_, fun _ _ => rfl, ?_⟩
              subst hK
              unfold wpQuiet
              generalize hK : wpQuiet Try.prog _ _ _ _ = K
              go_simp
              refine ⟨_, fun _ _ => rfl, ?_⟩
              subst hK
              refine wpQuiet_nil ?_
              intro W5 hb
              have HB5 := Hid.intro' (below_class HB3.out hb)
              clear hb hs hc q0 q1 q2 q3
              go_wp2
              go_ret
              refine ⟨ret_boo ?_, HB5.out⟩
              rw [HW.out, crW1 HM.out]
              simp only [bne_eq_false_iff_eq] at k2
              symm; rw [decide_eq_false_iff_not]; omega
          · unfold wpQuiet
            generalize hK : wpQuiet Try.prog _ _ _ _ = K
            go_simp
            refine ⟨_, fun _ _ => rfl, ?_⟩
            subst hK
            unfold wpQuiet
            generalize hK : wpQuiet Try.prog _ _ _ _ = K
            rw [if_pos (by go_simp)]
            refine quiet_load3 _ _ _ rfl rfl q2 ?_
            go_simp
            subst hK
            unfold wpQuiet
            generalize hK : wpQuiet Try.prog _ _ _ _ = K
            go_simp
            refine ⟨_, fun _ _ => rfl, ?_⟩
            subst hK
            unfold wpQuiet
            generalize hK : wpQuiet Try.prog _ _ _ _ = K
            go_simp
            refine ⟨_, fun _ _ => rfl, ?_⟩
            subst hK
            unfold wpQuiet
            generalize hK : wpQuiet Try.prog _ _ _ _ = K
            go_simp
            subst hK
            unfold wpQuiet
            generalize hK : wpQuiet Try.prog _ _ _ _ = K
            go_simp
            subst hK
            unfold wpQuiet
            generalize hK : wpQuiet Try.prog _ _ _ _ = K
            go_simp
            subst hK
            unfold wpQuiet
            generalize hK : wpQuiet Try.prog _ _ _ _ = K
            go_simp
            subst hK
            unfold wpQuiet
            generalize hK : wpQuiet Try.prog _ _ _ _ = K
            go_simp
            subst hK
            unfold wpQuiet
            generalize hK : wpQuiet Try.prog _ _ _ _ = K
            go_simp
            refine ⟨_, fun _ _ => rfl, ?_⟩
            subst hK
            unfold wpQuiet
            generalize hK : wpQuiet Try.prog _ _ _ _ = K
            go_simp
            refine ⟨_, fun _ _ => rfl, ?_⟩
            subst hK
            unfold wpQuiet
            generalize hK : wpQuiet Try.prog _ _ _ _ = K
            go_simp
            subst hK
            unfold wpQuiet
            generalize hK : wpQuiet Try.prog _ _ _ _ = K
            go_simp
            subst hK
            unfold wpQuiet
            generalize hK : wpQuiet Try.prog _ _ _ _ = K
            go_simp
            subst hK
            unfold wpQuiet
            generalize hK : wpQuiet Try.prog _ _ _ _ = K
            go_simp
            subst hK
            unfold wpQuiet
            generalize hK : wpQuiet Try.prog _ _ _ _ = K
            go_simp
            refine ⟨_, fun _ _ => rfl, ?_⟩
            subst hK
            unfold wpQuiet
            generalize hK : wpQuiet Try.prog _ _ _ _ = K
            go_simp
            refine ⟨_, fun _ _ => rfl, ?_⟩
            subst hK
            unfold wpQuiet
            generalize hK : wpQuiet Try.prog _ _ _ _ = K
            go_simp
            subst hK
            unfold wpQuiet
            generalize hK : wpQuiet Try.prog _ _ _ _ = K
            go_simp
            subst hK
            unfold wpQuiet
            generalize hK : wpQuiet Try.prog _ _ _ _ = K
            go_simp
            subst hK
            unfold wpQuiet
            generalize hK : wpQuiet Try.prog _ _ _ _ = K
            go_simp
            subst hK
            unfold wpQuiet
            generalize hK : wpQuiet Try.prog _ _ _ _ = K
            go_simp
            subst hK
            unfold wpQuiet
            generalize hK : wpQuiet Try.prog _ _ _ _ = K
            go_simp
            subst hK
            unfold wpQuiet
            generalize hK : wpQuiet Try.prog _ _ _ _ = K
            go_simp
            subst hK
            unfold wpQuiet
            generalize hK : wpQuiet Try.prog _ _ _ _ = K
            go_simp
            subst hK
            unfold wpQuiet
            generalize hK : wpQuiet Try.prog _ _ _ _ = K
            go_simp
            subst hK
            unfold wpQuiet
            generalize hK : wpQuiet Try.prog _ _ _ _ = K
            go_simp
            refine ⟨_, fun _ _ => rfl, ?_⟩
            subst hK
            unfold wpQuiet
            generalize hK : wpQuiet Try.prog _ _ _ _ = K
            go_simp
            refine ⟨_, fun _ _ => rfl, ?_⟩
            subst hK
            refine wpQuiet_nil ?_
            intro W5 hb
            have HB5 := Hid.intro' (below_class HB3.out hb)
            clear hb hs hc q0 q1 q2 q3
            go_wp2
            go_ret
            refine ⟨ret_boo ?_, HB5.out⟩
            rw [HW.out, crW1 HM.out]
            simp only [decide_eq_false_iff_not] at k1
            symm; rw [decide_eq_false_iff_not]; omega

end Go.Proofs.Ytjpkekmccbpclaj

/- Whether a car that was so may be so a tick later, as the program tells it and as the document's answer does. -/
namespace Go.Proofs.Ytjpkekmccbpclaj
open Go.RowKit

def sfW (a b : Cr) : Bool :=
  if b.ti ≠ 0 then (if a.ti ≠ 0 then decide (a.fl = b.fl ∧ a.tg = b.tg ∧ a.ti = b.ti + 1) else decide (a.d.ph = 0 ∧ a.fl = b.fl))
  else if a.ti ≠ 0 then decide (a.ti = 1 ∧ a.tg = b.fl ∧ b.d.ph = 0) else decide (a.fl = b.fl)
/-- a safe tick, as a Boolean -/
def sfB (s : St) (a b : Cr) : Bool := crB s a && crB s b && sfW a b
theorem sfW_iff (a b : Cr) : sfW a b = true ↔ CM.Sf a b := by
  unfold sfW CM.Sf
  split
  · split <;> exact decide_eq_true_iff
  · split <;> exact decide_eq_true_iff
theorem sfB_true {s : St} {a b : Cr} (h1 : CM.Rc s a) (h2 : CM.Rc s b) (h3 : CM.Sf a b) : sfB s a b = true := by
  unfold sfB; rw [crB_true h1, crB_true h2, (sfW_iff a b).2 h3]; rfl
theorem sfB_1 {s : St} {a b : Cr} (h : crB s a = false) : sfB s a b = false := by unfold sfB; rw [h]; rfl
theorem sfB_2 {s : St} {a b : Cr} (h : crB s b = false) : sfB s a b = false := by unfold sfB; rw [h, Bool.and_false]; rfl
theorem sfB_w {s : St} {a b : Cr} (h1 : crB s a = true) (h2 : crB s b = true) : sfB s a b = sfW a b := by unfold sfB; rw [h1, h2]; rfl
theorem sfW11 {a b : Cr} (h1 : a.ti ≠ 0) (h2 : b.ti ≠ 0) : sfW a b = decide (a.fl = b.fl ∧ a.tg = b.tg ∧ a.ti = b.ti + 1) := by unfold sfW; rw [if_pos h2, if_pos h1]
theorem sfW01 {a b : Cr} (h1 : a.ti = 0) (h2 : b.ti ≠ 0) : sfW a b = decide (a.d.ph = 0 ∧ a.fl = b.fl) := by unfold sfW; rw [if_pos h2, if_neg (fun h => h h1)]
theorem sfW10 {a b : Cr} (h1 : a.ti ≠ 0) (h2 : b.ti = 0) : sfW a b = decide (a.ti = 1 ∧ a.tg = b.fl ∧ b.d.ph = 0) := by unfold sfW; rw [if_neg (fun h => h h2), if_pos h1]
theorem sfW00 {a b : Cr} (h1 : a.ti = 0) (h2 : b.ti = 0) : sfW a b = decide (a.fl = b.fl) := by unfold sfW; rw [if_neg (fun h => h h2), if_neg (fun h => h h1)]

theorem cright_t (s : St) (c : Cr) (h : crB s c = true) (w : World) : Calls Try.prog 32 #[.agg (sv s).toArray, .agg #[.int .i64 c.fl, .int .i64 c.tg, .int .i64 c.ti, .int .i64 c.d.ph, .int .i64 c.d.le, .int .i64 c.d.ru, .bool c.d.he, .bool c.fa]] w fun e w' => e = .returned (.bool true) ∧ Below w.heap.size w w' := by
  have := cright_any s c w
  rwa [h] at this
theorem cright_f (s : St) (c : Cr) (h : crB s c = false) (w : World) : Calls Try.prog 32 #[.agg (sv s).toArray, .agg #[.int .i64 c.fl, .int .i64 c.tg, .int .i64 c.ti, .int .i64 c.d.ph, .int .i64 c.d.le, .int .i64 c.d.ru, .bool c.d.he, .bool c.fa]] w fun e w' => e = .returned (.bool false) ∧ Below w.heap.size w w' := by
  have := cright_any s c w
  rwa [h] at this
theorem rcright_t (s : St) (c : Cr) (h : crB s c = true) (w : World) : Calls Try.prog 11 #[.agg (sv s).toArray, .agg #[.int .i64 c.fl, .int .i64 c.tg, .int .i64 c.ti, .int .i64 c.d.ph, .int .i64 c.d.le, .int .i64 c.d.ru, .bool c.d.he, .bool c.fa]] w fun e w' => e = .returned (.bool true) ∧ Below w.heap.size w w' := by
  have := rcright_any s c w
  rwa [h] at this
theorem rcright_f (s : St) (c : Cr) (h : crB s c = false) (w : World) : Calls Try.prog 11 #[.agg (sv s).toArray, .agg #[.int .i64 c.fl, .int .i64 c.tg, .int .i64 c.ti, .int .i64 c.d.ph, .int .i64 c.d.le, .int .i64 c.d.ru, .bool c.d.he, .bool c.fa]] w fun e w' => e = .returned (.bool false) ∧ Below w.heap.size w w' := by
  have := rcright_any s c w
  rwa [h] at this

/-- the blocks: the site, two cars -/
structure Bf (w0 W : World) (S : Nat) (s : St) (a b : Cr) : Prop where
  bel : Below w0.heap.size w0 W
  sb : SB W S s
  ab : CB W (S + 1) a
  bb : CB W (S + 1 + 1) b
theorem Bf.new (w : World) (s : St) (a b : Cr) : Bf w (((w.alloc (.cells (sv s).toArray 23)).alloc (.cells #[.int .i64 a.fl, .int .i64 a.tg, .int .i64 a.ti, .int .i64 a.d.ph, .int .i64 a.d.le, .int .i64 a.d.ru, .bool a.d.he, .bool a.fa] 36)).alloc (.cells #[.int .i64 b.fl, .int .i64 b.tg, .int .i64 b.ti, .int .i64 b.d.ph, .int .i64 b.d.le, .int .i64 b.d.ru, .bool b.d.he, .bool b.fa] 36)) w.heap.size s a b :=
  ⟨(((Below.refl _ w).alloc (Nat.le_refl _) _).alloc (by simp) _).alloc (by simp; omega) _, ((SB.new w s).alloc _).alloc _, (CB.new' _ a (by simp)).alloc _, CB.new' _ b (by simp)⟩
theorem Bf.below {w0 W W' : World} {S : Nat} {s : St} {a b : Cr} (h : Bf w0 W S s a b) (hb : Below W.heap.size W W') : Bf w0 W' S s a b :=
  ⟨below_class h.bel hb, h.sb.below' hb, h.ab.below' hb, h.bb.below' hb⟩
theorem Bf.keep {w0 W : World} {S : Nat} {s : St} {a b : Cr} {f : FuncId} {args : Array Value} {R : Ending → Prop} (h : Bf w0 W S s a b)
    (hc : Calls Try.prog f args W fun e w' => R e ∧ Below W.heap.size W w') : Calls Try.prog f args W fun e w' => R e ∧ Bf w0 w' S s a b :=
  hc.mono fun _ _ hh => ⟨hh.1, h.below hh.2⟩

/-- two ways that are one -/
theorem eqW_t (x y : Int) (w : World) : (Op.equalIn 10000 70 (.agg #[.int .i64 x, .int .i64 y]) (.agg #[.int .i64 x, .int .i64 y])).run Try.prog w = .ok true w := by
  have u3 := Try.underlying3
  have uW := Try.underlying70
  go_simp
/-- two ways that aren't -/
theorem eqW_f {x y x' y' : Int} (h : ¬ (x = x' ∧ y = y')) (w : World) : (Op.equalIn 10000 70 (.agg #[.int .i64 x, .int .i64 y]) (.agg #[.int .i64 x', .int .i64 y'])).run Try.prog w = .ok false w := by
  have u3 := Try.underlying3
  have uW := Try.underlying70
  by_cases hx : x = x'
  · subst hx
    have hy : (y == y') = false := by simp only [beq_eq_false_iff_ne]; exact fun e => h ⟨rfl, e⟩
    clear h
    go_simp
  · have hx' : (x == x') = false := by simpa using hx
    clear h hx
    go_simp

set_option maxHeartbeats 4000000 in
theorem csafe_any (s : St) (a b : Cr) (w : World) :
    Calls Try.prog 25 #[.agg (sv s).toArray, .agg #[.int .i64 a.fl, .int .i64 a.tg, .int .i64 a.ti, .int .i64 a.d.ph, .int .i64 a.d.le, .int .i64 a.d.ru, .bool a.d.he, .bool a.fa], .agg #[.int .i64 b.fl, .int .i64 b.tg, .int .i64 b.ti, .int .i64 b.d.ph, .int .i64 b.d.le, .int .i64 b.d.ru, .bool b.d.he, .bool b.fa]] w fun e w' => e = .returned (.bool (sfB s a b)) ∧ Below w.heap.size w w' := by
  have H0 := Hid.intro' (Bf.new w s a b)
  go_enter Try.func25, Try.ntmps25
  go_wp2_with (first | (refine wpList_load23 rfl _ rfl w.heap.size s rfl H0.out.sb ?_) | (refine wpList_loadC rfl _ rfl (w.heap.size + 1) rfl H0.out.ab ?_))
  cases h1 : crB s a
  · refine (H0.out.keep (cright_f s a h1 _)).mono ?_
    rintro e W1 ⟨rfl, hk⟩
    have HB1 := Hid.intro' hk.bel
    have HF := Hid.intro' h1
    clear hk h1 H0
    go_wp2
    go_ret
    exact ⟨ret_boo (sfB_1 HF.out).symm, HB1.out⟩
  · refine (H0.out.keep (cright_t s a h1 _)).mono ?_
    rintro e W1 ⟨rfl, hk⟩
    have H1 := Hid.intro' hk
    have HA := Hid.intro' h1
    clear hk h1 H0
    go_wp2_with (first | (refine wpList_load23g rfl _ rfl w.heap.size s rfl H1.out.sb ?_) | (refine wpList_loadCg rfl _ rfl (w.heap.size + 1 + 1) rfl H1.out.bb ?_))
    cases h2 : crB s b
    · refine (H1.out.keep (cright_f s b h2 _)).mono ?_
      rintro e W2 ⟨rfl, hk⟩
      have HB2 := Hid.intro' hk.bel
      have HF := Hid.intro' h2
      clear hk h2 H1
      go_wp2
      go_ret
      exact ⟨ret_boo (sfB_2 HF.out).symm, HB2.out⟩
    · refine (H1.out.keep (cright_t s b h2 _)).mono ?_
      rintro e W2 ⟨rfl, hk⟩
      have H2 := Hid.intro' hk
      have HW := Hid.intro' (sfB_w HA.out h2)
      obtain ⟨p1, p2⟩ := ((crB_iff s a).1 HA.out).ti_bd
      obtain ⟨q1, q2⟩ := ((crB_iff s b).1 h2).ti_bd
      clear hk h2 H1 HA
      go_wp2_with ((refine wpList_loadC rfl _ rfl (w.heap.size + 1) rfl H2.out.ab ?_))
      by_cases hm : a.ti = 0
      · have HM := Hid.intro' hm
        clear hm
        by_cases hn : b.ti = 0
        · have HN := Hid.intro' hn
          clear hn
          refine (H2.out.keep (moves_f a HM.out _)).mono ?_
          rintro e W3 ⟨rfl, hk⟩
          have H3 := Hid.intro' hk
          clear hk H2
          go_wp2_with (first | (refine wpList_loadC rfl _ rfl (w.heap.size + 1) rfl H3.out.ab ?_) | (refine wpList_loadC rfl _ rfl (w.heap.size + 1 + 1) rfl H3.out.bb ?_) | (refine wpList_loadCg rfl _ rfl (w.heap.size + 1 + 1) rfl H3.out.bb ?_))
          refine (H3.out.keep (moves_f b HN.out _)).mono ?_
          rintro e W5 ⟨rfl, hk⟩
          have H5 := Hid.intro' hk
          clear hk H3
          go_wp2_with (first | (refine wpList_loadC rfl _ rfl (w.heap.size + 1) rfl H5.out.ab ?_) | (refine wpList_loadC rfl _ rfl (w.heap.size + 1 + 1) rfl H5.out.bb ?_) | (refine wpList_loadCg rfl _ rfl (w.heap.size + 1 + 1) rfl H5.out.bb ?_))
          refine (H5.out.keep (moves_f a HM.out _)).mono ?_
          rintro e W6 ⟨rfl, hk⟩
          have H6 := Hid.intro' hk
          clear hk H5
          have a0 := H6.out.ab.c0; have b0 := H6.out.bb.c0
          have a1 := H6.out.ab.c1; have b1 := H6.out.bb.c1
          have a2 := H6.out.ab.c2; have b2 := H6.out.bb.c2
          have a3 := H6.out.ab.c3; have b3 := H6.out.bb.c3
          go_wp2
          clear a0 a1 a2 a3 b0 b1 b2 b3
          go_ret
          refine ⟨ret_boo ?_, H6.out.bel⟩
          rw [HW.out, sfW00 HM.out HN.out]
          rfl
        · have HN := Hid.intro' hn
          clear hn
          refine (H2.out.keep (moves_f a HM.out _)).mono ?_
          rintro e W3 ⟨rfl, hk⟩
          have H3 := Hid.intro' hk
          clear hk H2
          go_wp2_with (first | (refine wpList_loadC rfl _ rfl (w.heap.size + 1) rfl H3.out.ab ?_) | (refine wpList_loadC rfl _ rfl (w.heap.size + 1 + 1) rfl H3.out.bb ?_) | (refine wpList_loadCg rfl _ rfl (w.heap.size + 1 + 1) rfl H3.out.bb ?_))
          refine (H3.out.keep (moves_t b HN.out _)).mono ?_
          rintro e W5 ⟨rfl, hk⟩
          have H5 := Hid.intro' hk
          clear hk H3
          go_wp2_with (first | (refine wpList_loadC rfl _ rfl (w.heap.size + 1) rfl H5.out.ab ?_) | (refine wpList_loadC rfl _ rfl (w.heap.size + 1 + 1) rfl H5.out.bb ?_) | (refine wpList_loadCg rfl _ rfl (w.heap.size + 1 + 1) rfl H5.out.bb ?_))
          refine (H5.out.keep (idle_any a _)).mono ?_
          rintro e W7 ⟨rfl, hk⟩
          have H7 := Hid.intro' hk
          clear hk H5
          generalize hgen : CM.idle a = i
          have a0 := H7.out.ab.c0; have b0 := H7.out.bb.c0
          have a1 := H7.out.ab.c1; have b1 := H7.out.bb.c1
          have a2 := H7.out.ab.c2; have b2 := H7.out.bb.c2
          have a3 := H7.out.ab.c3; have b3 := H7.out.bb.c3
          cases i
          · have HI := Hid.intro' hgen
            clear hgen
            go_wp2
            all_goals
              clear a0 a1 a2 a3 b0 b1 b2 b3
              go_ret
              refine ⟨ret_boo ?_, H7.out.bel⟩
              have hi := HI.out
              have hm := HM.out
              have hn := HN.out
              rw [HW.out, sfW01 hm hn, Bool.eq_iff_iff]
              try simp only [CM.idle] at *
              try simp only [decide_eq_true_eq] at *
              try simp only [decide_eq_false_iff_not] at *
              try simp only [beq_iff_eq] at *
              try simp only [Bool.false_eq_true] at *
              try simp only [beq_eq_false_iff_ne] at *
              try simp only [false_iff] at *
              try simp only [true_iff] at *
              try omega
          · have HI := Hid.intro' hgen
            clear hgen
            go_wp2
            all_goals
              clear a0 a1 a2 a3 b0 b1 b2 b3
              go_ret
              refine ⟨ret_boo ?_, H7.out.bel⟩
              have hi := HI.out
              have hm := HM.out
              have hn := HN.out
              rw [HW.out, sfW01 hm hn, Bool.eq_iff_iff]
              try simp only [CM.idle] at *
              try simp only [decide_eq_true_eq] at *
              try simp only [decide_eq_false_iff_not] at *
              try simp only [beq_iff_eq] at *
              try simp only [Bool.false_eq_true] at *
              try simp only [beq_eq_false_iff_ne] at *
              try simp only [false_iff] at *
              try simp only [true_iff] at *
              try omega
      · have HM := Hid.intro' hm
        clear hm
        by_cases hn : b.ti = 0
        · have HN := Hid.intro' hn
          clear hn
          refine (H2.out.keep (moves_t a HM.out _)).mono ?_
          rintro e W3 ⟨rfl, hk⟩
          have H3 := Hid.intro' hk
          clear hk H2
          go_wp2_with (first | (refine wpList_loadC rfl _ rfl (w.heap.size + 1) rfl H3.out.ab ?_) | (refine wpList_loadC rfl _ rfl (w.heap.size + 1 + 1) rfl H3.out.bb ?_) | (refine wpList_loadCg rfl _ rfl (w.heap.size + 1 + 1) rfl H3.out.bb ?_))
          refine (H3.out.keep (moves_f b HN.out _)).mono ?_
          rintro e W4 ⟨rfl, hk⟩
          have H4 := Hid.intro' hk
          clear hk H3
          go_wp2_with (first | (refine wpList_loadC rfl _ rfl (w.heap.size + 1) rfl H4.out.ab ?_) | (refine wpList_loadC rfl _ rfl (w.heap.size + 1 + 1) rfl H4.out.bb ?_) | (refine wpList_loadCg rfl _ rfl (w.heap.size + 1 + 1) rfl H4.out.bb ?_))
          refine (H4.out.keep (moves_f b HN.out _)).mono ?_
          rintro e W5 ⟨rfl, hk⟩
          have H5 := Hid.intro' hk
          clear hk H4
          go_wp2_with (first | (refine wpList_loadC rfl _ rfl (w.heap.size + 1) rfl H5.out.ab ?_) | (refine wpList_loadC rfl _ rfl (w.heap.size + 1 + 1) rfl H5.out.bb ?_) | (refine wpList_loadCg rfl _ rfl (w.heap.size + 1 + 1) rfl H5.out.bb ?_))
          refine (H5.out.keep (moves_t a HM.out _)).mono ?_
          rintro e W6 ⟨rfl, hk⟩
          have H6 := Hid.intro' hk
          clear hk H5
          go_wp2_with (first | (refine wpList_loadC rfl _ rfl (w.heap.size + 1) rfl H6.out.ab ?_) | (refine wpList_loadC rfl _ rfl (w.heap.size + 1 + 1) rfl H6.out.bb ?_) | (refine wpList_loadCg rfl _ rfl (w.heap.size + 1 + 1) rfl H6.out.bb ?_))
          refine (H6.out.keep (idle_any b _)).mono ?_
          rintro e W7 ⟨rfl, hk⟩
          have H7 := Hid.intro' hk
          clear hk H6
          generalize hgen : CM.idle b = i
          have a0 := H7.out.ab.c0; have b0 := H7.out.bb.c0
          have a1 := H7.out.ab.c1; have b1 := H7.out.bb.c1
          have a2 := H7.out.ab.c2; have b2 := H7.out.bb.c2
          have a3 := H7.out.ab.c3; have b3 := H7.out.bb.c3
          cases i
          · have HI := Hid.intro' hgen
            clear hgen
            go_wp2
            all_goals
              clear a0 a1 a2 a3 b0 b1 b2 b3
              go_ret
              refine ⟨ret_boo ?_, H7.out.bel⟩
              have hi := HI.out
              have hm := HM.out
              have hn := HN.out
              rw [HW.out, sfW10 hm hn, Bool.eq_iff_iff]
              try simp only [CM.idle] at *
              try simp only [decide_eq_true_eq] at *
              try simp only [decide_eq_false_iff_not] at *
              try simp only [beq_iff_eq] at *
              try simp only [Bool.false_eq_true] at *
              try simp only [beq_eq_false_iff_ne] at *
              try simp only [false_iff] at *
              try simp only [true_iff] at *
              try omega
          · have HI := Hid.intro' hgen
            clear hgen
            go_wp2
            all_goals
              clear a0 a1 a2 a3 b0 b1 b2 b3
              go_ret
              refine ⟨ret_boo ?_, H7.out.bel⟩
              have hi := HI.out
              have hm := HM.out
              have hn := HN.out
              rw [HW.out, sfW10 hm hn, Bool.eq_iff_iff]
              try simp only [CM.idle] at *
              try simp only [decide_eq_true_eq] at *
              try simp only [decide_eq_false_iff_not] at *
              try simp only [beq_iff_eq] at *
              try simp only [Bool.false_eq_true] at *
              try simp only [beq_eq_false_iff_ne] at *
              try simp only [false_iff] at *
              try simp only [true_iff] at *
              try omega
        · have HN := Hid.intro' hn
          clear hn
          refine (H2.out.keep (moves_t a HM.out _)).mono ?_
          rintro e W3 ⟨rfl, hk⟩
          have H3 := Hid.intro' hk
          clear hk H2
          go_wp2_with (first | (refine wpList_loadC rfl _ rfl (w.heap.size + 1) rfl H3.out.ab ?_) | (refine wpList_loadC rfl _ rfl (w.heap.size + 1 + 1) rfl H3.out.bb ?_) | (refine wpList_loadCg rfl _ rfl (w.heap.size + 1 + 1) rfl H3.out.bb ?_))
          refine (H3.out.keep (moves_t b HN.out _)).mono ?_
          rintro e W4 ⟨rfl, hk⟩
          have H4 := Hid.intro' hk
          clear hk H3
          go_wp2_with fail
          have ha : ∀ w', Below W4.heap.size W4 w' → CB w' (w.heap.size + 1) a := fun w' h' => H4.out.ab.below' h'
          have hb : ∀ w', Below W4.heap.size W4 w' → CB w' (w.heap.size + 1 + 1) b := fun w' h' => H4.out.bb.below' h'
          have qa : ∀ w', Below W4.heap.size W4 w' → w'.cell? ⟨w.heap.size + 1, 2, none⟩ = some (.int .i64 a.ti) := fun w' h' => (H4.out.ab.below' h').c2
          have qb : ∀ w', Below W4.heap.size W4 w' → w'.cell? ⟨w.heap.size + 1 + 1, 2, none⟩ = some (.int .i64 b.ti) := fun w' h' => (H4.out.bb.below' h').c2
          refine wp_region_quiet (C := fun w' => Below W4.heap.size W4 w') (by kernel_rfl) (by kernel_rfl) ((Below.refl _ W4).drew) ?_
          simp only []
          by_cases hw : a.fl = b.fl ∧ a.tg = b.tg
          · have eqw : ∀ W, (Op.equalIn 10000 70 (.agg #[.int .i64 a.fl, .int .i64 a.tg]) (.agg #[.int .i64 b.fl, .int .i64 b.tg])).run Try.prog W = .ok true W := fun W => by rw [hw.1, hw.2]; exact eqW_t _ _ W
            have HX := Hid.intro' hw
            clear hw
            unfold wpQuiet
            generalize hK : wpQuiet Try.prog _ _ _ _ = K
            rw [if_pos (by go_simp)]
            refine quiet_loadC _ (w.heap.size + 1) rfl rfl ha ?_
            go_simp
            subst hK
            unfold wpQuiet
            generalize hK : wpQuiet Try.prog _ _ _ _ = K
            go_simp
            refine ⟨_, fun w' hw => (wayOf_any a w').mono fun e w'' hh => ⟨hh.1, below_class hw hh.2⟩, ?_⟩
            subst hK
            unfold wpQuiet
            generalize hK : wpQuiet Try.prog _ _ _ _ = K
            rw [if_pos (by go_simp)]
            refine quiet_loadC _ (w.heap.size + 1 + 1) rfl rfl hb ?_
            go_simp
            subst hK
            unfold wpQuiet
            generalize hK : wpQuiet Try.prog _ _ _ _ = K
            go_simp
            refine ⟨_, fun w' hw => (wayOf_any b w').mono fun e w'' hh => ⟨hh.1, below_class hw hh.2⟩, ?_⟩
            subst hK
            unfold wpQuiet
            generalize hK : wpQuiet Try.prog _ _ _ _ = K
            go_simp
            refine ⟨_, fun _ _ => rfl, ?_⟩
            subst hK
            unfold wpQuiet
            generalize hK : wpQuiet Try.prog _ _ _ _ = K
            go_simp
            refine ⟨_, fun _ _ => rfl, ?_⟩
            subst hK
            unfold wpQuiet
            generalize hK : wpQuiet Try.prog _ _ _ _ = K
            go_simp
            refine ⟨_, fun _ _ => rfl, ?_⟩
            subst hK
            unfold wpQuiet
            generalize hK : wpQuiet Try.prog _ _ _ _ = K
            rw [if_pos (by go_simp)]
            refine quiet_load3 _ _ _ rfl rfl qa ?_
            go_simp
            subst hK
            unfold wpQuiet
            generalize hK : wpQuiet Try.prog _ _ _ _ = K
            go_simp
            refine ⟨_, fun _ _ => rfl, ?_⟩
            subst hK
            unfold wpQuiet
            generalize hK : wpQuiet Try.prog _ _ _ _ = K
            go_simp
            refine ⟨_, fun _ _ => rfl, ?_⟩
            subst hK
            unfold wpQuiet
            generalize hK : wpQuiet Try.prog _ _ _ _ = K
            rw [if_pos (by go_simp)]
            refine quiet_load3 _ _ _ rfl rfl qb ?_
            go_simp
            subst hK
            unfold wpQuiet
            generalize hK : wpQuiet Try.prog _ _ _ _ = K
            go_simp
            refine ⟨_, fun _ _ => rfl, ?_⟩
            subst hK
            unfold wpQuiet
            generalize hK : wpQuiet Try.prog _ _ _ _ = K
            go_simp
            refine ⟨_, fun _ _ => rfl, ?_⟩
            subst hK
            unfold wpQuiet
            generalize hK : wpQuiet Try.prog _ _ _ _ = K
            go_simp
            refine ⟨_, fun _ _ => rfl, ?_⟩
            subst hK
            refine wpQuiet_nil ?_
            intro W5 hb5
            have HB5 := Hid.intro' (below_class H4.out.bel hb5)
            clear hb5 ha hb qa qb eqw
            go_wp2
            go_ret
            refine ⟨ret_boo ?_, HB5.out⟩
            rw [HW.out, sfW11 HM.out HN.out]
            rw [IntWalk.i64_in _ ⟨by omega, by omega⟩, Bool.eq_iff_iff]
            have := HX.out
            simp only [decide_eq_true_eq, beq_iff_eq]
            omega
          · have eqw : ∀ W, (Op.equalIn 10000 70 (.agg #[.int .i64 a.fl, .int .i64 a.tg]) (.agg #[.int .i64 b.fl, .int .i64 b.tg])).run Try.prog W = .ok false W := fun W => eqW_f hw W
            have HX := Hid.intro' hw
            clear hw
            unfold wpQuiet
            generalize hK : wpQuiet Try.prog _ _ _ _ = K
            rw [if_pos (by go_simp)]
            refine quiet_loadC _ (w.heap.size + 1) rfl rfl ha ?_
            go_simp
            subst hK
            unfold wpQuiet
            generalize hK : wpQuiet Try.prog _ _ _ _ = K
            go_simp
            refine ⟨_, fun w' hw => (wayOf_any a w').mono fun e w'' hh => ⟨hh.1, below_class hw hh.2⟩, ?_⟩
            subst hK
            unfold wpQuiet
            generalize hK : wpQuiet Try.prog _ _ _ _ = K
            rw [if_pos (by go_simp)]
            refine quiet_loadC _ (w.heap.size + 1 + 1) rfl rfl hb ?_
            go_simp
            subst hK
            unfold wpQuiet
            generalize hK : wpQuiet Try.prog _ _ _ _ = K
            go_simp
            refine ⟨_, fun w' hw => (wayOf_any b w').mono fun e w'' hh => ⟨hh.1, below_class hw hh.2⟩, ?_⟩
            subst hK
            unfold wpQuiet
            generalize hK : wpQuiet Try.prog _ _ _ _ = K
            go_simp
            refine ⟨_, fun _ _ => rfl, ?_⟩
            subst hK
            unfold wpQuiet
            generalize hK : wpQuiet Try.prog _ _ _ _ = K
            go_simp
            refine ⟨_, fun _ _ => rfl, ?_⟩
            subst hK
            unfold wpQuiet
            generalize hK : wpQuiet Try.prog _ _ _ _ = K
            go_simp
            subst hK
            unfold wpQuiet
            generalize hK : wpQuiet Try.prog _ _ _ _ = K
            go_simp
            subst hK
            unfold wpQuiet
            generalize hK : wpQuiet Try.prog _ _ _ _ = K
            go_simp
            subst hK
            unfold wpQuiet
            generalize hK : wpQuiet Try.prog _ _ _ _ = K
            go_simp
            subst hK
            unfold wpQuiet
            generalize hK : wpQuiet Try.prog _ _ _ _ = K
            go_simp
            subst hK
            unfold wpQuiet
            generalize hK : wpQuiet Try.prog _ _ _ _ = K
            go_simp
            subst hK
            unfold wpQuiet
            generalize hK : wpQuiet Try.prog _ _ _ _ = K
            go_simp
            refine ⟨_, fun _ _ => rfl, ?_⟩
            subst hK
            unfold wpQuiet
            generalize hK : wpQuiet Try.prog _ _ _ _ = K
            go_simp
            refine ⟨_, fun _ _ => rfl, ?_⟩
            subst hK
            refine wpQuiet_nil ?_
            intro W5 hb5
            have HB5 := Hid.intro' (below_class H4.out.bel hb5)
            clear hb5 ha hb qa qb eqw
            go_wp2
            go_ret
            refine ⟨ret_boo ?_, HB5.out⟩
            rw [HW.out, sfW11 HM.out HN.out]
            symm; rw [decide_eq_false_iff_not]
            have := HX.out
            omega

set_option maxHeartbeats 4000000 in
theorem rcsafe_any (s : St) (a b : Cr) (w : World) :
    Calls Try.prog 18 #[.agg (sv s).toArray, .agg #[.int .i64 a.fl, .int .i64 a.tg, .int .i64 a.ti, .int .i64 a.d.ph, .int .i64 a.d.le, .int .i64 a.d.ru, .bool a.d.he, .bool a.fa], .agg #[.int .i64 b.fl, .int .i64 b.tg, .int .i64 b.ti, .int .i64 b.d.ph, .int .i64 b.d.le, .int .i64 b.d.ru, .bool b.d.he, .bool b.fa]] w fun e w' => e = .returned (.bool (sfB s a b)) ∧ Below w.heap.size w w' := by
  have H0 := Hid.intro' (Bf.new w s a b)
  go_enter Try.func18, Try.ntmps18
  go_wp2_with (first | (refine wpList_load23 rfl _ rfl w.heap.size s rfl H0.out.sb ?_) | (refine wpList_loadC rfl _ rfl (w.heap.size + 1) rfl H0.out.ab ?_))
  cases h1 : crB s a
  · refine (H0.out.keep (rcright_f s a h1 _)).mono ?_
    rintro e W1 ⟨rfl, hk⟩
    have HB1 := Hid.intro' hk.bel
    have HF := Hid.intro' h1
    clear hk h1 H0
    go_wp2
    go_ret
    exact ⟨ret_boo (sfB_1 HF.out).symm, HB1.out⟩
  · refine (H0.out.keep (rcright_t s a h1 _)).mono ?_
    rintro e W1 ⟨rfl, hk⟩
    have H1 := Hid.intro' hk
    have HA := Hid.intro' h1
    clear hk h1 H0
    go_wp2_with (first | (refine wpList_load23g rfl _ rfl w.heap.size s rfl H1.out.sb ?_) | (refine wpList_loadCg rfl _ rfl (w.heap.size + 1 + 1) rfl H1.out.bb ?_))
    cases h2 : crB s b
    · refine (H1.out.keep (rcright_f s b h2 _)).mono ?_
      rintro e W2 ⟨rfl, hk⟩
      have HB2 := Hid.intro' hk.bel
      have HF := Hid.intro' h2
      clear hk h2 H1
      go_wp2
      go_ret
      exact ⟨ret_boo (sfB_2 HF.out).symm, HB2.out⟩
    · refine (H1.out.keep (rcright_t s b h2 _)).mono ?_
      rintro e W2 ⟨rfl, hk⟩
      have H2 := Hid.intro' hk
      have HW := Hid.intro' (sfB_w HA.out h2)
      obtain ⟨p1, p2⟩ := ((crB_iff s a).1 HA.out).ti_bd
      obtain ⟨q1, q2⟩ := ((crB_iff s b).1 h2).ti_bd
      clear hk h2 H1 HA
      have a0 := H2.out.ab.c0; have b0 := H2.out.bb.c0
      have a1 := H2.out.ab.c1; have b1 := H2.out.bb.c1
      have a2 := H2.out.ab.c2; have b2 := H2.out.bb.c2
      have a3 := H2.out.ab.c3; have b3 := H2.out.bb.c3
      go_wp2
      all_goals
        clear a0 a1 a2 a3 b0 b1 b2 b3
        go_ret
        refine ⟨ret_boo ?_, H2.out.bel⟩
        rw [HW.out]
        unfold sfW
        by_cases hm : a.ti = 0 <;> by_cases hn : b.ti = 0
        all_goals
          first | rw [if_pos hn] | rw [if_neg (fun h => h hn)]
          first | rw [if_pos hm] | rw [if_neg (fun h => h hm)]
          rw [Bool.eq_iff_iff]
          try simp only [decide_eq_true_eq] at *
          try simp only [decide_eq_false_iff_not] at *
          try simp only [beq_iff_eq] at *
          try simp only [Bool.false_eq_true] at *
          try simp only [beq_eq_false_iff_ne] at *
          try simp only [false_iff] at *
          try simp only [true_iff] at *
          try omega

end Go.Proofs.Ytjpkekmccbpclaj
