/- What is wrong with any tick is told exactly. -/
import Derived.Test.YtjpkekmccbpclajPk7
import Derived.Test.YtjpkekmccbpclajPk8
import Derived.OrdersHeld
namespace Go.Proofs.Ytjpkekmccbpclaj
open Go.RowKit Go.Shelf

theorem wp_nrmS {P : Program} {Q : Exit → Act → World → Prop} {c : Code} {a : Act} {w : World} (h : c.wp P (fun ex a w => ex = Exit.normal ∧ Q ex a w) a w) : c.wp P Q a w := wp_mono h (fun _ _ _ h => h.2)
theorem run_load23S {a : Act} {o : Oper} {w : World} (x : Operand) (b : Nat) (s : St) (ho : o.op = .load 23 x) (hx : a.eval x = .pointer (some ⟨b, 0, none⟩)) (hr : SB w b s) : (execOp a.eval o).run Try.prog w = .ok (.value (.agg (sv s).toArray)) w := by
  unfold execOp
  simp only [ho, hx, Sem.run_bind, Sem.run_pure, Result.andThen_ok, load23 w b s hr.range]
set_option maxRecDepth 100000 in
set_option maxHeartbeats 4000000 in
theorem SafeTicks_any (s : St) (va vb vd vt : Value) (a b : List Cr) (wd wt : List Ca) (r : Bool) (W : World) (ha : RK (fun _ => True) W va a) (hb : RK (fun _ => True) W vb b) (hd : RC (fun _ => True) W vd wd) (ht : RC (fun _ => True) W vt wt) :
    Calls Try.prog 3 #[.agg (sv s).toArray, va, vb, vd, vt, .bool r] W fun e w' => e = .returned (.bool true) ∧ Below W.heap.size W w' := by
  obtain ⟨aa, ka, rfl, -⟩ := ha.form
  obtain ⟨ab, kb, rfl, -⟩ := hb.form
  obtain ⟨ad, kd, rfl, -⟩ := hd.form
  obtain ⟨at', kt, rfl, -⟩ := ht.form
  have HA := Hid.intro' ha
  have HBB := Hid.intro' hb
  have HD' := Hid.intro' hd
  have HTT := Hid.intro' ht
  have HB0 := Hid.intro' ((Below.refl W.heap.size W).alloc (Nat.le_refl _) (.cells (sv s).toArray 23))
  have HS0 := Hid.intro' (SB.new W s)
  have HSP := Hid.intro' (speaks16_any (W.alloc (.cells (sv s).toArray 23)))
  clear ha hb hd ht
  go_enter Try.func3, Try.ntmps3
  go_wp2_with fail
  generalize W.alloc (.cells (sv s).toArray 23) = V at HB0 HS0 HSP ⊢
  refine HSP.out.mono ?_
  rintro e W1 ⟨rfl, hb1⟩
  have HB1 := Hid.intro' (below_class HB0.out hb1)
  have HS1 := Hid.intro' (HS0.out.below' hb1)
  clear hb1 HB0 HS0 HSP
  by_cases q : (a.length ≤ 20 ∧ b.length ≤ 20) ∧ (wd.length ≤ 150 ∧ wt.length ≤ 150)
  · obtain ⟨⟨q1, q2⟩, q3, q4⟩ := q
    have p1 : ¬ ((20 : Int) < (a.length : Int)) := by omega
    have p2 : ¬ ((20 : Int) < (b.length : Int)) := by omega
    have p3 : ¬ ((150 : Int) < (wd.length : Int)) := by omega
    have p4 : ¬ ((150 : Int) < (wt.length : Int)) := by omega
    have HQ : Hid ((a.length ≤ 20 ∧ b.length ≤ 20) ∧ (wd.length ≤ 150 ∧ wt.length ≤ 150)) := ⟨⟨q1, q2⟩, q3, q4⟩
    clear q1 q2 q3 q4
    go_wp2_with fail
    clear p1 p2 p3 p4
    refine wp_nrmS ?_
    refine wp_region_held (S := fun w' => Below W1.heap.size W1 w') (by kernel_rfl) ?_
    change wpAnyH _ _ _ _ _ _ _ _ (World.drew _)
    have HD : Hid (Below W1.heap.size W1 W1.drew) := (Below.refl _ _).drew
    generalize hXd : W1.drew = X0 at HD ⊢
    clear hXd
    have HLS : Hid (∀ w', Below W1.heap.size W1 w' → SB w' W.heap.size s) := fun w' hw => HS1.out.below' hw
    refine wpAnyH_take (i := 0) (v := .agg (sv s).toArray) rfl (by kernel_rfl) (by kernel_rfl) (by kernel_rfl) (fun _ _ _ h => by cases h.1) (.inl ⟨rfl, fun w hw => run_load23S _ _ s rfl rfl (HLS.out w hw)⟩) HD.out ?_
    generalize hKK : wpAnyH Try.prog _ _ _ _ _ _ = KK
    go_simp
    subst hKK
    refine wpAnyH_take (i := 1) rfl (by kernel_rfl) (by kernel_rfl) (by kernel_rfl) (fun _ _ _ h => by cases h.1) (.inl ⟨rfl, fun _ _ => rfl⟩) HD.out ?_
    generalize hKK : wpAnyH Try.prog _ _ _ _ _ _ = KK
    go_simp
    subst hKK
    refine wpAnyH_take (i := 2) rfl (by kernel_rfl) (by kernel_rfl) (by kernel_rfl) (fun _ _ _ h => by cases h.1) (.inl ⟨rfl, fun _ _ => rfl⟩) HD.out ?_
    generalize hKK : wpAnyH Try.prog _ _ _ _ _ _ = KK
    go_simp
    subst hKK
    refine wpAnyH_take (i := 3) rfl (by kernel_rfl) (by kernel_rfl) (by kernel_rfl) (fun _ _ _ h => by cases h.1) (.inl ⟨rfl, fun _ _ => rfl⟩) HD.out ?_
    generalize hKK : wpAnyH Try.prog _ _ _ _ _ _ = KK
    go_simp
    subst hKK
    refine wpAnyH_take (i := 4) rfl (by kernel_rfl) (by kernel_rfl) (by kernel_rfl) (fun _ _ _ h => by cases h.1) (.inl ⟨rfl, fun _ _ => rfl⟩) HD.out ?_
    generalize hKK : wpAnyH Try.prog _ _ _ _ _ _ = KK
    go_simp
    subst hKK
    refine wpAnyH_take (i := 5) rfl (by kernel_rfl) (by kernel_rfl) (by kernel_rfl) (fun _ _ _ h => by cases h.1) (.inl ⟨rfl, fun _ _ => rfl⟩) HD.out ?_
    generalize hKK : wpAnyH Try.prog _ _ _ _ _ _ = KK
    go_simp
    subst hKK
    refine wpAnyH_take (i := 7) (v := .agg (sv s).toArray) rfl (by kernel_rfl) (by kernel_rfl) (by kernel_rfl) (fun _ _ _ h => by cases h.1) (.inl ⟨rfl, fun w hw => run_load23S _ _ s rfl rfl (HLS.out w hw)⟩) HD.out ?_
    generalize hKK : wpAnyH Try.prog _ _ _ _ _ _ = KK
    go_simp
    subst hKK
    refine wpAnyH_take (i := 8) rfl (by kernel_rfl) (by kernel_rfl) (by kernel_rfl) (fun _ _ _ h => by cases h.1) (.inl ⟨rfl, fun _ _ => rfl⟩) HD.out ?_
    generalize hKK : wpAnyH Try.prog _ _ _ _ _ _ = KK
    go_simp
    subst hKK
    refine wpAnyH_take (i := 9) rfl (by kernel_rfl) (by kernel_rfl) (by kernel_rfl) (fun _ _ _ h => by cases h.1) (.inl ⟨rfl, fun _ _ => rfl⟩) HD.out ?_
    generalize hKK : wpAnyH Try.prog _ _ _ _ _ _ = KK
    go_simp
    subst hKK
    refine wpAnyH_take (i := 10) rfl (by kernel_rfl) (by kernel_rfl) (by kernel_rfl) (fun _ _ _ h => by cases h.1) (.inl ⟨rfl, fun _ _ => rfl⟩) HD.out ?_
    generalize hKK : wpAnyH Try.prog _ _ _ _ _ _ = KK
    go_simp
    subst hKK
    refine wpAnyH_take (i := 11) rfl (by kernel_rfl) (by kernel_rfl) (by kernel_rfl) (fun _ _ _ h => by cases h.1) (.inl ⟨rfl, fun _ _ => rfl⟩) HD.out ?_
    generalize hKK : wpAnyH Try.prog _ _ _ _ _ _ = KK
    go_simp
    subst hKK
    refine wpAnyH_take (i := 12) rfl (by kernel_rfl) (by kernel_rfl) (by kernel_rfl) (fun _ _ _ h => by cases h.1) (.inl ⟨rfl, fun _ _ => rfl⟩) HD.out ?_
    generalize hKK : wpAnyH Try.prog _ _ _ _ _ _ = KK
    go_simp
    subst hKK
    have HBX := Hid.intro' (below_class HB1.out HD.out)
    have hq := HQ.out
    have HT1 := Hid.intro' (stick_any (fun _ => True) s _ _ _ _ a b wd wt r X0 (HA.out.below' HBX.out) (HBB.out.below' HBX.out) (HD'.out.below' HBX.out) (HTT.out.below' HBX.out) hq.1.1 hq.1.2 hq.2.1 hq.2.2)
    obtain ⟨out, HO⟩ : ∃ x, Hid (SF.tk s a b wd wt r = x) := ⟨_, Hid.intro' rfl⟩
    rw [HO.out] at HT1
    refine wpAnyH_all (rs := [6]) (by kernel_rfl) (by simp) (fun ii hii => ?_)
    obtain rfl : ii = 6 := by simpa using hii
    clear hii
    refine wpOp_call (f := 8) (args := #[.agg (sv s).toArray, .slice aa a.length ka, .slice ab b.length kb, .slice ad wd.length kd, .slice at' wt.length kt, .bool r]) rfl rfl (by go_simp) HT1.out ?_
    rintro e X1 ⟨v1, rfl, hr1, hb1⟩
    refine ⟨v1, rfl, below_class HD.out hb1, ?_⟩
    have HD1 := Hid.intro' (below_class HD.out hb1)
    have HBX1 := Hid.intro' (below_class HBX.out hb1)
    have HR1 := Hid.intro' hr1
    have HT2 := Hid.intro' (rtick_any (fun _ => True) s _ _ _ _ a b wd wt r X1 (HA.out.below' HBX1.out) (HBB.out.below' HBX1.out) (HD'.out.below' HBX1.out) (HTT.out.below' HBX1.out) hq.1.1 hq.1.2 hq.2.1 hq.2.2)
    rw [HO.out] at HT2
    clear hr1 hb1 HT1 hq
    generalize hKK : wpAnyH Try.prog _ _ _ _ _ _ = KK
    go_simp
    subst hKK
    refine wpAnyH_all (rs := [13]) (by kernel_rfl) (by simp) (fun ii hii => ?_)
    obtain rfl : ii = 13 := by simpa using hii
    clear hii
    refine wpOp_call (f := 9) (args := #[.agg (sv s).toArray, .slice aa a.length ka, .slice ab b.length kb, .slice ad wd.length kd, .slice at' wt.length kt, .bool r]) rfl rfl (by go_simp) HT2.out ?_
    rintro e X2 ⟨v2, rfl, hr2, hb2⟩
    refine ⟨v2, rfl, below_class HD1.out hb2, ?_⟩
    have HD2 := Hid.intro' (below_class HD1.out hb2)
    have HBX2 := Hid.intro' (below_class HBX1.out hb2)
    have HSM : Hid (Calls Try.prog 7 #[v1, v2] X2 fun e w' => e = .returned (.bool true) ∧ Below X2.heap.size X2 w') := by
      have hl : out.length ≤ 100000 := by rw [← HO.out]; exact Nat.le_trans (SF.ft_len _ _ _ _) (by omega)
      have h := rsame_any (fun _ => True) (fun _ => True) v1 v2 out out X2 (HR1.out.below' hb2) (hr2.ri fun _ _ => trivial) hl
      rwa [decide_eq_true (rfl : out = out)] at h
    clear hr2 hb2 HT2 HR1
    generalize hKK : wpAnyH Try.prog _ _ _ _ _ _ = KK
    go_simp
    subst hKK
    refine wpAnyH_all (rs := [14]) (by kernel_rfl) (by simp) (fun ii hii => ?_)
    obtain rfl : ii = 14 := by simpa using hii
    clear hii
    refine wpOp_call (f := 7) (args := #[v1, v2]) rfl rfl (by go_simp) HSM.out ?_
    rintro e X3 ⟨rfl, hb3⟩
    refine ⟨_, rfl, below_class HD2.out hb3, ?_⟩
    have HD3 := Hid.intro' (below_class HD2.out hb3)
    have HBX3 := Hid.intro' (below_class HBX2.out hb3)
    clear hb3 HSM
    generalize hKK : wpAnyH Try.prog _ _ _ _ _ _ = KK
    go_simp
    subst hKK
    refine wpAnyH_take (i := 15) rfl (by kernel_rfl) (by kernel_rfl) (by kernel_rfl) (fun _ _ _ h => by cases h.1) (.inl ⟨rfl, fun _ _ => rfl⟩) HD3.out ?_
    generalize hKK : wpAnyH Try.prog _ _ _ _ _ _ = KK
    go_simp
    subst hKK
    refine wpAnyH_done (by kernel_rfl) ⟨rfl, ?_⟩ _
    go_wp2
    go_ret
    exact ⟨rfl, HBX3.out⟩
  · have HN := Hid.intro' q
    clear q
    go_wp2
    all_goals
      first
        | (go_ret; exact ⟨rfl, HB1.out⟩)
        | (exfalso; have := HN.out; omega)

end Go.Proofs.Ytjpkekmccbpclaj
