/- The rule's car of a want, as the document has it. -/
import Derived.Test.YtdfdkddjkhcgdahPk5
import Derived.Test.YtdfdkddjkhcgdahPk4
import Derived.Test.YtdfdkddjkhcgdahPk3
namespace Go.Proofs.Ytdfdkddjkhcgdah
open Go.RowKit Go.Shelf

section
variable {C : World → Prop} {K : Act → Prop} {o : Oper} {a : Act}
theorem quiet_lR (x : Operand) (b k : Nat) {v : Value} (ho : o.op = .load 24 x) (hx : a.eval x = .pointer (some ⟨b, k, none⟩)) (hr : ∀ w, C w → w.cell? ⟨b, k, none⟩ = some v) (h : K (a.put o.dst v)) : o.quiet Try.prog a C K :=
  quiet_val _ (fun w hw => by
    have hl : (Instr.loadAt 24 (.pointer (some ⟨b, k, none⟩))).run Try.prog w = .ok v w := by simp [go_sem, hr w hw]
    unfold execOp; simp only [ho, hx, Sem.run_bind, Sem.run_pure, Result.andThen_ok, hl]) h
theorem quiet_lW (x : Operand) (b k : Nat) {v : Value} (ho : o.op = .load 25 x) (hx : a.eval x = .pointer (some ⟨b, k, none⟩)) (hr : ∀ w, C w → w.cell? ⟨b, k, none⟩ = some v) (h : K (a.put o.dst v)) : o.quiet Try.prog a C K :=
  quiet_val _ (fun w hw => by
    have hl : (Instr.loadAt 25 (.pointer (some ⟨b, k, none⟩))).run Try.prog w = .ok v w := by simp [go_sem, hr w hw]
    unfold execOp; simp only [ho, hx, Sem.run_bind, Sem.run_pure, Result.andThen_ok, hl]) h
theorem quiet_iR (x y : Operand) {g f n cap j : Nat} (ho : o.op = .indexAddr 24 x y) (hx : a.eval x = .slice (some ⟨g, f, none⟩) n cap) (hy : a.eval y = .int .i64 (j : Int)) (hj : j < n) (h : K (a.put o.dst (.pointer (some ⟨g, f + j * 2, none⟩)))) : o.quiet Try.prog a C K :=
  quiet_val _ (fun w hw => by unfold execOp; simp only [ho, hx, hy, Sem.run_bind, Sem.run_pure, Result.andThen_ok, ixR w rfl hj]) h
theorem quiet_iW (x y : Operand) {g f n cap j : Nat} (ho : o.op = .indexAddr 25 x y) (hx : a.eval x = .slice (some ⟨g, f, none⟩) n cap) (hy : a.eval y = .int .i64 (j : Int)) (hj : j < n) (h : K (a.put o.dst (.pointer (some ⟨g, f + j * 2, none⟩)))) : o.quiet Try.prog a C K :=
  quiet_val _ (fun w hw => by unfold execOp; simp only [ho, hx, hy, Sem.run_bind, Sem.run_pure, Result.andThen_ok, ixW w rfl hj]) h
theorem quiet_l23n (x : Operand) (b : Nat) (s : St) (vc vw : Value) (ho : o.op = .load 23 x) (hx : a.eval x = .pointer (some ⟨b, 0, none⟩)) (hr : ∀ w, C w → NB w b s vc vw) (h : K (a.put o.dst (.agg (sv s).toArray))) : o.quiet Try.prog a C K :=
  quiet_val _ (fun w hw => by
    unfold execOp; simp only [ho, hx, Sem.run_bind, Sem.run_pure, Result.andThen_ok, load23 w b s (hr w hw).site]) h
end
theorem far_any (a b : Int) (w : World) (ha : -1000000 ≤ a ∧ a ≤ 1000000) (hb : -1000000 ≤ b ∧ b ≤ 1000000) : Calls Try.prog 45 #[.int .i64 a, .int .i64 b] w fun e w' => e = .returned (.int .i64 (SM.dist a b)) ∧ Below w.heap.size w w' := by
  have h1 : IntKind.i64.wrap (b - a) = b - a := IntWalk.i64_in _ (by omega)
  have h2 : IntKind.i64.wrap (a - b) = a - b := IntWalk.i64_in _ (by omega)
  by_cases h : a < b
  · have hd : SM.dist a b = b - a := by unfold SM.dist; rw [if_pos h]
    rw [hd]
    go_enter Try.func45, Try.ntmps45
    go_wp2
    go_ret
    exact ⟨rfl, Below.refl _ _⟩
  · have hd : SM.dist a b = a - b := by unfold SM.dist; rw [if_neg h]
    rw [hd]
    go_enter Try.func45, Try.ntmps45
    go_wp2
    go_ret
    exact ⟨rfl, Below.refl _ _⟩

set_option maxRecDepth 100000 in
set_option maxHeartbeats 4000000 in
theorem rfirst14_any (s : Sn) (D : Nat → Prop) (vc vw : Value) (w : World) (hc : R2 D w vc s.cs) (hw : R2 D w vw s.ws) (hr : rgt s = true) (i : Nat) (hi : i < s.ws.length) :
    Calls Try.prog 46 #[.agg (nv s.st vc vw).toArray, .int .i64 (i : Int)] w fun e w' => e = .returned (.int .i64 (rfc s (i : Int) s.cs.length).1) ∧ Below w.heap.size w w' := by
  have hbx := (Below.refl w.heap.size w).alloc (Nat.le_refl _) (.cells (nv s.st vc vw).toArray 27)
  have HN := Hid.intro' (NB.new w s.st vc vw)
  have HB := Hid.intro' hbx
  have HC := Hid.intro' (hc.below' hbx)
  have HW := Hid.intro' (hw.below' hbx)
  obtain ⟨ac, kc, rfl, _, _⟩ := hc.form
  obtain ⟨aw, kw, rfl, _, _⟩ := hw.form
  have HZ := Hid.intro' (rgt_rz hr)
  have HAF := Hid.intro' (rgt_after hr)
  obtain ⟨n8, hrs⟩ := rgt_rs hr
  have hcl : s.cs.length ≤ 8 := by have := hrs.cl; have := hrs.n8; omega
  obtain ⟨y, hy⟩ : ∃ y, s.ws[i]? = some y := ⟨_, List.getElem?_eq_getElem hi⟩
  obtain ⟨m, hm, hym⟩ := hrs.mm.eq i y hy
  have hm8 : m ≤ 100000 := by
    have h1 := hrs.lt m (List.mem_of_getElem? hm)
    have h2 : 2 ^ n8 ≤ 2 ^ 8 := Nat.pow_le_pow_right (by omega) hrs.n8
    omega
  have HMY : Hid (∀ c, mayk s c (i : Int) = PM.bt m c) := fun c => by
    unfold mayk; rw [Int.toNat_natCast, hm]; rfl
  have hwf : RM.wf s.ws (i : Int) = y.1 := RM.wf_get hy
  have HWF := Hid.intro' hwf
  have HYR := Hid.intro' (HZ.out.wr y (List.mem_of_getElem? hy))
  have HY := Hid.intro' hy
  have HYM := Hid.intro' hym
  clear hc hw hbx hr hrs hm hwf hy hym
  have h0 : i < s.ws.length := hi
  go_enter Try.func46, Try.ntmps46
  go_wp2_with fail
  generalize w.alloc (.cells (nv s.st (.slice ac s.cs.length kc) (.slice aw s.ws.length kw)).toArray 27) = X at HN HB HC HW ⊢
  go_loopw [5, 6, 7] (fun bv lv cv wr => ∃ c : Nat, c ≤ s.cs.length ∧ cv = .int .i64 (c : Int) ∧ bv = .int .i64 (rfc s (i : Int) c).1 ∧ lv = .int .i64 (rfc s (i : Int) c).2 ∧ Hid (Below X.heap.size X wr)) (fun _ _ cv _ => s.cs.length - (intOf cv).toNat)
  case atStart => exact ⟨0, Nat.zero_le _, rfl, rfl, rfl, Below.refl _ _⟩
  case round =>
    obtain ⟨c, hcn, rfl, rfl, rfl, HBL⟩ := hrel
    have HNW := Hid.intro' (HN.out.below' HBL.out)
    have c13 : wr.cell? ⟨w.heap.size, 13, none⟩ = some (.slice ac s.cs.length kc) := HNW.out.cell 13
    by_cases hc : c < s.cs.length
    · have hcz : (c : Int) < (s.cs.length : Int) := by omega
      obtain ⟨r, hr⟩ : ∃ r, s.cs[c]? = some r := ⟨_, List.getElem?_eq_getElem hc⟩
      obtain ⟨gc, oc, rfl, e0, e1⟩ := (HC.out.below' HBL.out).at hr
      obtain ⟨gw, ow, rfl, f0, _⟩ := (HW.out.below' HBL.out).at HY.out
      obtain ⟨r1, r2⟩ := r
      obtain ⟨y1, y2⟩ := y
      obtain ⟨T, HT⟩ : ∃ T, Hid (SM.trav s.st r1 y1 = T) := ⟨_, Hid.intro' rfl⟩
      have htb := SM.trav_bd HZ.out.rt r1 y1
      rw [HT.out] at htb
      have haf := HAF.out (r1, r2) (List.mem_of_getElem? hr)
      have hl0 : 0 ≤ r2 := (HZ.out.cr (r1, r2) (List.mem_of_getElem? hr)).l0
      have haf : r2 ≤ 1000000 := haf
      have hw1 : IntKind.i64.wrap (r2 + T) = r2 + T := IntWalk.i64_in _ (by omega)
      have HRT : Hid (rtm s (i : Int) c = r2 + T) := by
        show _ = _
        unfold rtm
        rw [hr, HWF.out, Option.getD_some, HT.out]
      have HNB : Hid (∀ w', Below wr.heap.size wr w' → NB w' w.heap.size s.st (.slice (some ⟨gc, oc, none⟩) s.cs.length kc) (.slice (some ⟨gw, ow, none⟩) s.ws.length kw)) := fun w' hw => HNW.out.below' hw
      have H13 : Hid (∀ w', Below wr.heap.size wr w' → w'.cell? ⟨w.heap.size, 13, none⟩ = some (.slice (some ⟨gc, oc, none⟩) s.cs.length kc)) := fun w' hw => (HNW.out.below' hw).cell 13
      have H14 : Hid (∀ w', Below wr.heap.size wr w' → w'.cell? ⟨w.heap.size, 14, none⟩ = some (.slice (some ⟨gw, ow, none⟩) s.ws.length kw)) := fun w' hw => (HNW.out.below' hw).cell 14
      have E0 : Hid (∀ w', Below wr.heap.size wr w' → w'.cell? ⟨gc, oc + c * 2, none⟩ = some (.int .i64 r1)) := fun w' hw => (hw.cell (p := ⟨gc, oc + c * 2, none⟩) (cell_lt e0)).trans e0
      have E1 : Hid (∀ w', Below wr.heap.size wr w' → w'.cell? ⟨gc, oc + c * 2 + 1, none⟩ = some (.int .i64 r2)) := fun w' hw => (hw.cell (p := ⟨gc, oc + c * 2 + 1, none⟩) (cell_lt e1)).trans e1
      have F0 : Hid (∀ w', Below wr.heap.size wr w' → w'.cell? ⟨gw, ow + i * 2, none⟩ = some (.int .i64 y1)) := fun w' hw => (hw.cell (p := ⟨gw, ow + i * 2, none⟩) (cell_lt f0)).trans f0
      have HTR : Hid (∀ w', Below wr.heap.size wr w' → Calls Try.prog 80 #[.agg (sv s.st).toArray, .int .i64 r1, .int .i64 y1] w' fun e w'' => e = .returned (.int .i64 T) ∧ Below w'.heap.size w' w'') := fun w' hw => by
        have h := rtravel_any s.st HZ.out.rt r1 y1 w'
        rw [HT.out] at h
        exact h
      obtain ⟨b0, HB0⟩ : ∃ b0, Hid ((rfc s (i : Int) c).1 = b0) := ⟨_, Hid.intro' rfl⟩
      obtain ⟨l0, HL0⟩ : ∃ l0, Hid ((rfc s (i : Int) c).2 = l0) := ⟨_, Hid.intro' rfl⟩
      rw [HB0.out, HL0.out]
      have HRF : Hid (rfc s (i : Int) (c + 1) = if mayk s c (i : Int) = true ∧ (b0 < 0 ∨ r2 + T < l0) then ((c : Int), r2 + T) else (b0, l0)) := by
        show (if _ then _ else _) = _
        rw [HB0.out, HL0.out, HRT.out]
        congr 1
        rw [← HB0.out, ← HL0.out]
      clear e0 e1 f0 htb haf hl0 hr
      go_wp2_with fail
      clear c13
      refine wp_region_quiet (C := fun w' => Below wr.heap.size wr w') (by kernel_rfl) (by kernel_rfl) ((Below.refl _ _).drew) ?_
      simp only []
      unfold wpQuiet
      generalize hK : wpQuiet Try.prog _ _ _ _ = K
      go_simp
      refine ⟨_, fun _ _ => rfl, ?_⟩
      subst hK
      unfold wpQuiet
      generalize hK : wpQuiet Try.prog _ _ _ _ = K
      rw [if_pos (by go_simp)]
      refine quiet_lR _ _ _ rfl rfl H13.out ?_
      go_simp
      subst hK
      unfold wpQuiet
      generalize hK : wpQuiet Try.prog _ _ _ _ = K
      go_simp
      refine ⟨_, fun _ _ => rfl, ?_⟩
      subst hK
      unfold wpQuiet
      generalize hK : wpQuiet Try.prog _ _ _ _ = K
      rw [if_pos (by go_simp)]
      refine quiet_iR _ _ rfl rfl rfl hc ?_
      go_simp
      subst hK
      unfold wpQuiet
      generalize hK : wpQuiet Try.prog _ _ _ _ = K
      go_simp
      refine ⟨_, fun _ _ => rfl, ?_⟩
      subst hK
      unfold wpQuiet
      generalize hK : wpQuiet Try.prog _ _ _ _ = K
      rw [if_pos (by go_simp)]
      refine quiet_load3 _ _ _ rfl rfl E1.out ?_
      go_simp
      subst hK
      unfold wpQuiet
      generalize hK : wpQuiet Try.prog _ _ _ _ = K
      go_simp
      refine ⟨_, fun _ _ => rfl, ?_⟩
      subst hK
      unfold wpQuiet
      generalize hK : wpQuiet Try.prog _ _ _ _ = K
      rw [if_pos (by go_simp)]
      refine quiet_l23n _ w.heap.size s.st _ _ rfl rfl HNB.out ?_
      go_simp
      subst hK
      unfold wpQuiet
      generalize hK : wpQuiet Try.prog _ _ _ _ = K
      go_simp
      refine ⟨_, fun _ _ => rfl, ?_⟩
      subst hK
      unfold wpQuiet
      generalize hK : wpQuiet Try.prog _ _ _ _ = K
      rw [if_pos (by go_simp)]
      refine quiet_lR _ _ _ rfl rfl H13.out ?_
      go_simp
      subst hK
      unfold wpQuiet
      generalize hK : wpQuiet Try.prog _ _ _ _ = K
      go_simp
      refine ⟨_, fun _ _ => rfl, ?_⟩
      subst hK
      unfold wpQuiet
      generalize hK : wpQuiet Try.prog _ _ _ _ = K
      rw [if_pos (by go_simp)]
      refine quiet_iR _ _ rfl rfl rfl hc ?_
      go_simp
      subst hK
      unfold wpQuiet
      generalize hK : wpQuiet Try.prog _ _ _ _ = K
      go_simp
      refine ⟨_, fun _ _ => rfl, ?_⟩
      subst hK
      unfold wpQuiet
      generalize hK : wpQuiet Try.prog _ _ _ _ = K
      rw [if_pos (by go_simp)]
      refine quiet_load3 _ _ _ rfl rfl E0.out ?_
      go_simp
      subst hK
      unfold wpQuiet
      generalize hK : wpQuiet Try.prog _ _ _ _ = K
      go_simp
      refine ⟨_, fun _ _ => rfl, ?_⟩
      subst hK
      unfold wpQuiet
      generalize hK : wpQuiet Try.prog _ _ _ _ = K
      rw [if_pos (by go_simp)]
      refine quiet_lW _ _ _ rfl rfl H14.out ?_
      go_simp
      subst hK
      unfold wpQuiet
      generalize hK : wpQuiet Try.prog _ _ _ _ = K
      go_simp
      refine ⟨_, fun _ _ => rfl, ?_⟩
      subst hK
      unfold wpQuiet
      generalize hK : wpQuiet Try.prog _ _ _ _ = K
      rw [if_pos (by go_simp)]
      refine quiet_iW _ _ rfl rfl rfl h0 ?_
      go_simp
      subst hK
      unfold wpQuiet
      generalize hK : wpQuiet Try.prog _ _ _ _ = K
      go_simp
      refine ⟨_, fun _ _ => rfl, ?_⟩
      subst hK
      unfold wpQuiet
      generalize hK : wpQuiet Try.prog _ _ _ _ = K
      rw [if_pos (by go_simp)]
      refine quiet_load3 _ _ _ rfl rfl F0.out ?_
      go_simp
      subst hK
      unfold wpQuiet
      generalize hK : wpQuiet Try.prog _ _ _ _ = K
      go_simp
      refine ⟨_, fun w' hw => (HTR.out w' hw).mono fun e w'' hh => ⟨hh.1, below_class hw hh.2⟩, ?_⟩
      subst hK
      unfold wpQuiet
      generalize hK : wpQuiet Try.prog _ _ _ _ = K
      go_simp
      refine ⟨_, fun _ _ => rfl, ?_⟩
      subst hK
      unfold wpQuiet
      generalize hK : wpQuiet Try.prog _ _ _ _ = K
      go_simp
      refine ⟨_, fun _ _ => rfl, ?_⟩
      subst hK
      refine wpQuiet_nil ?_
      intro W3 hb3
      have HB3 := Hid.intro' (below_class HBL.out hb3)
      have HN3 := Hid.intro' (HNW.out.below' hb3)
      have HMA := Hid.intro' (may_any s D (.slice (some ⟨gc, oc, none⟩) s.cs.length kc) _ W3 (HW.out.below' HB3.out) i c m (y1, y2) HY.out HYM.out hm8 (by omega))
      clear hb3 HNB H13 H14 E0 E1 F0 HTR HNW HBL
      rw [HMY.out] at HRF
      go_wp2_with (refine wpList_load27g rfl _ rfl w.heap.size s.st _ _ rfl HN3.out ?_)
      refine HMA.out.mono ?_
      rintro e W4 ⟨rfl, hb4⟩
      have HB4 := Hid.intro' (below_class HB3.out hb4)
      clear hb4 HMA HN3 HB3
      cases hbt : PM.bt m c with
      | false =>
        rw [hbt, if_neg (by simp)] at HRF
        clear hbt
        go_wp2
        go_roundw
        case rel => exact ⟨c + 1, by omega, by go_num, by rw [HRF.out], by rw [HRF.out], HB4⟩
        case measure => simp [intOf]; omega
      | true =>
        rw [hbt] at HRF
        clear hbt
        by_cases hb0 : b0 < 0
        · rw [if_pos ⟨rfl, .inl hb0⟩] at HRF
          go_wp2
          go_roundw
          case rel => exact ⟨c + 1, by omega, by go_num, by rw [HRF.out], by rw [HRF.out], HB4⟩
          case measure => simp [intOf]; omega
        · by_cases hl0 : r2 + T < l0
          · rw [if_pos ⟨rfl, .inr hl0⟩] at HRF
            go_wp2
            go_roundw
            case rel => exact ⟨c + 1, by omega, by go_num, by rw [HRF.out], by rw [HRF.out], HB4⟩
            case measure => simp [intOf]; omega
          · rw [if_neg (fun h => h.2.elim hb0 hl0)] at HRF
            go_wp2
            go_roundw
            case rel => exact ⟨c + 1, by omega, by go_num, by rw [HRF.out], by rw [HRF.out], HB4⟩
            case measure => simp [intOf]; omega
    · have hcz : ¬ (c : Int) < (s.cs.length : Int) := by omega
      have HCE : Hid (c = s.cs.length) := by show _ = _; omega
      have HBE := Hid.intro' (below_class HB.out HBL.out)
      go_wp2
      go_ret
      exact ⟨by rw [HCE.out]; rfl, HBE.out⟩

end Go.Proofs.Ytdfdkddjkhcgdah
