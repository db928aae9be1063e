/- The walk of the law FloorsBoth. -/
import Derived.Test.YtklekpkchpnmiaaFloorsBothM
import Derived.StillTailTactics
namespace Go.Proofs.Ytklekpkchpnmiaa
open Go.RowKit Go.Shelf
attribute [local go_sem] Oper.semAt_some

set_option maxRecDepth 100000 in
set_option maxHeartbeats 4000000 in
theorem both_in (s : Nat) (f : Int) (w : World) (hs : s < 18446744073709551616) (hf0 : 0 ≤ f) (hf1 : f ≤ 63) :
    Calls Try.prog 8 #[.int .u64 s, .int .i64 f] w fun e w' => e = .returned (.bool true) ∧ Below w.heap.size w w' := by
  refine (callsIn_wide (n := 9)).1 ?_
  refine callsIn_of_wp_marks Try.func8 rfl trivial ?_ rfl
  simp only [Try.ntmps8, List.size_toArray, List.length_cons, List.length_nil, Nat.reduceAdd, Nat.reduceSub, Array.replicate_succ, Array.replicate_zero, List.push_toArray, List.append_toArray, List.nil_append, List.cons_append]
  have b0 := (Boxed.new w 3 (.int .i64 f)).alloc (.cells #[.bool false] 4)
  have b1 := Boxed.new (w.alloc (.cells #[.int .i64 f] 3)) 4 (.bool false)
  rw [World.size_alloc] at b1
  have hB1 : Below w.heap.size w ((w.alloc (.cells #[.int .i64 f] 3)).alloc (.cells #[.bool false] 4)) := ((Below.refl _ w).alloc (Nat.le_refl _) _).alloc (by simp) _
  have HB1 := Hid.intro' hB1
  have h0 := Hid.intro' b0
  have h1 := Hid.intro' b1
  clear b0 b1 hB1
  gi_wp2_with fail
  generalize (w.alloc (.cells #[.int .i64 f] 3)).alloc (.cells #[.bool false] 4) = W1 at HB1 h0 h1 ⊢
  refine ⟨trivial, ?_⟩
  refine (callsIn_wide.2 (fspeaks_any _)).mono ?_
  rintro e W2 ⟨rfl, hb⟩
  have HB2 : Hid (Below w.heap.size w W2) := HB1.out.trans (hb.mono HB1.out.size)
  have g0 := Boxed.below h0.out hb h0.out.lt
  have g1 := Boxed.below h1.out hb h1.out.lt
  have hM : w.heap.size + 1 < W2.heap.size := g1.lt
  have c0 := g0.cell
  have f0 := g0.frozen
  have c1 := g1.cell
  have f1 := g1.frozen
  have hBX := Hid.intro' (bx_start (s := s) g0 g1)
  have hcA : ∀ o1 o2 o3 o4 o5 : Obj, (((((W2.alloc o1).alloc o2).alloc o3).alloc o4).alloc o5).cell? ⟨w.heap.size, 0, none⟩ = some (.int .i64 f) := fun o1 o2 o3 o4 o5 => (((((g0.alloc o1).alloc o2).alloc o3).alloc o4).alloc o5).cell
  clear h0 h1 HB1 hb g0 g1
  gi_wp2_with (refine ⟨trivial, ?_⟩; gi_at_call 28; refine (callsIn_wide.2 (up_any _ _ _)).mono ?_; rintro e w' ⟨rfl, rfl⟩)
  clear c0 f0 c1 f1 hcA
  -- the world where the first loop begins
  have d5 := (Boxed.new (((((W2.alloc (.cells #[.int .u64 s] 33)).alloc (.cells #[.int .u64 0] 33)).alloc (.cells #[.int .i64 0] 3)).alloc (.cells #[.int .i64 (-1)] 3)).alloc (.cells #[.int .i64 (-1)] 3)) 33 (.int .u64 s)).alloc (.cells #[.int .i64 f] 3)
  have d6 := Boxed.new ((((((W2.alloc (.cells #[.int .u64 s] 33)).alloc (.cells #[.int .u64 0] 33)).alloc (.cells #[.int .i64 0] 3)).alloc (.cells #[.int .i64 (-1)] 3)).alloc (.cells #[.int .i64 (-1)] 3)).alloc (.cells #[.int .u64 s] 33)) 3 (.int .i64 f)
  simp only [World.size_alloc] at d5 d6
  have hsz : (((((((W2.alloc (.cells #[.int .u64 s] 33)).alloc (.cells #[.int .u64 0] 33)).alloc (.cells #[.int .i64 0] 3)).alloc (.cells #[.int .i64 (-1)] 3)).alloc (.cells #[.int .i64 (-1)] 3)).alloc (.cells #[.int .u64 s] 33)).alloc (.cells #[.int .i64 f] 3)).heap.size = W2.heap.size + 7 := by simp only [World.size_alloc]
  have hB3 : Below W2.heap.size W2 (((((((W2.alloc (.cells #[.int .u64 s] 33)).alloc (.cells #[.int .u64 0] 33)).alloc (.cells #[.int .i64 0] 3)).alloc (.cells #[.int .i64 (-1)] 3)).alloc (.cells #[.int .i64 (-1)] 3)).alloc (.cells #[.int .u64 s] 33)).alloc (.cells #[.int .i64 f] 3)) :=
    (((((((Below.refl _ W2).alloc (Nat.le_refl _) _).alloc (by simp only [World.size_alloc]; omega) _).alloc (by simp only [World.size_alloc]; omega) _).alloc (by simp only [World.size_alloc]; omega) _).alloc (by simp only [World.size_alloc]; omega) _).alloc (by simp only [World.size_alloc]; omega) _).alloc (by simp only [World.size_alloc]; omega) _
  have HB3 := Hid.intro' (HB2.out.trans (hB3.mono HB2.out.size))
  clear hB3 HB2
  generalize (((((((W2.alloc (.cells #[.int .u64 s] 33)).alloc (.cells #[.int .u64 0] 33)).alloc (.cells #[.int .i64 0] 3)).alloc (.cells #[.int .i64 (-1)] 3)).alloc (.cells #[.int .i64 (-1)] 3)).alloc (.cells #[.int .u64 s] 33)).alloc (.cells #[.int .i64 f] 3)) = WL at hBX d5 d6 hsz HB3 ⊢
  generalize W2.heap.size = M at hBX d5 d6 hsz hM ⊢
  refine wpIn_rangeFunc_ownF rfl (by decide) (gf := 38) (lb := #[.pointer (some ⟨M + 1 + 1 + 1 + 1 + 1 + 1, 0, none⟩), .pointer (some ⟨M + 1 + 1 + 1 + 1 + 1, 0, none⟩)]) rfl trivial (enters_of Try.func38 (by kernel_rfl) rfl)
    (up_stops 8 (M + 1 + 1 + 1 + 1 + 1 + 1) (M + 1 + 1 + 1 + 1 + 1) s f hs WL d6.lt d5.lt d6.cell d5.cell) keepC_t (keepC_b d5.lt) (Below.refl _ _) (fun _ => rfl)
    (fun pre W => Good s f 64 pre ∧ Bx W w.heap.size M f s (seenN pre) (pre.length : Int) (headI pre) (-1) ∧ Below w.heap.size w W)
    (fun c pre W => ¬ Good s f 64 pre)
    (OwnFrom.and (ownFrom_pure _ _) (OwnFrom.and (Own.from (bx_own _ _ _ _ _ _ _ _) _) (ownFrom_below (Nat.le_refl _) (by omega))))
    (fun c => ownFrom_pure _ _)
    ⟨good_nil _ _ _, hBX.out, HB3.out⟩
    ?a1 ?assign ?body ?done ?stop
  case assign =>
    intro l x W K hK
    gi_wp2
    exact hK
  case stop =>
    rintro D c pre W hD hpre hbad hK
    exact absurd (good_up hpre) hbad
  case body =>
    rintro l pre x W ⟨hg, hbx, hB⟩ hlen
    clear hBX HB3 d5 d6
    have HG := Hid.intro' hg
    have HX := Hid.intro' hbx
    have HB := Hid.intro' hB
    have c0 := hbx.1.cell
    have c1 := hbx.2.1.cell
    have f1 := hbx.2.1.frozen
    have c2 := hbx.2.2.1.cell
    have c3 := hbx.2.2.2.1.cell
    have f3 := hbx.2.2.2.1.frozen
    have c4 := hbx.2.2.2.2.1.cell
    have f4 := hbx.2.2.2.2.1.frozen
    have c5 := hbx.2.2.2.2.2.1.cell
    have f5 := hbx.2.2.2.2.2.1.frozen
    have hsn := seenN_lt pre
    clear hg hbx hB
    have hwf : ∀ k : FuncId, Fence.wide.fn k := fun _ => trivial
    rcases Bool.eq_false_or_eq_true (FM.hasN (seenN pre) (x : Int)) with k1 | k1
    · gi_wp2_with (gi_at_call 25; refine (CallsIn.inRound l (callsIn_wide.2 (has_any _ _ _ (by assumption)))).mono ?_; rintro e w' ⟨rfl, rfl⟩)
      exact ⟨KeepsOthers.setCell _ _ _, bad_seen ((seenN_has pre x).1 k1)⟩
    · rcases Bool.eq_false_or_eq_true (FM.hasN s (x : Int)) with k2 | k2
      · by_cases k3 : (x : Int) < f
        · gi_wp2_with (gi_at_call 25; refine (CallsIn.inRound l (callsIn_wide.2 (has_any _ _ _ (by assumption)))).mono ?_; rintro e w' ⟨rfl, rfl⟩)
          exact ⟨KeepsOthers.setCell _ _ _, bad_lo k3⟩
        · have k1' : ¬ (x < 64 ∧ x ∈ pre) := fun h => by rw [(seenN_has pre x).2 h] at k1; cases k1
          have hgood := good_snoc HG.out k1' ((hasN_iff s x).1 k2) (show f ≤ (x : Int) by omega) (by have := ((hasN_iff s x).1 k2).1; omega)
          have HGOOD := Hid.intro' hgood
          clear k1' hgood
          cases pre with
          | nil =>
            gi_wp2_with (first
              | (gi_at_call 25; refine (CallsIn.inRound l (callsIn_wide.2 (has_any _ _ _ (by assumption)))).mono ?_; rintro e w' ⟨rfl, rfl⟩)
              | (gi_at_call 26; refine (CallsIn.inRound l (callsIn_wide.2 (with_any _ _ _ (by assumption)))).mono ?_; rintro e w' ⟨rfl, rfl⟩))
            exact ⟨((KeepsOthers.setCell _ _ _).trans (KeepsOthers.setCell _ _ _)).trans (KeepsOthers.setCell _ _ _),
              keepC_t (keepC_t (keepC_set _ (by omega) _) (keepC_set _ (by omega) _)) (keepC_set _ (by omega) _),
              HGOOD.out, bx_step (((HX.out.setUp hM _).setSeen hM _).setN hM _) rfl rfl,
              ((HB.out.setCell (p := ⟨M + 1 + 1 + 1, 0, none⟩) (by simp; omega) _).setCell (p := ⟨M + 1, 0, none⟩) (by simp; omega) _).setCell (p := ⟨M + 1 + 1, 0, none⟩) (by simp; omega) _⟩
          | cons y pre =>
            have hhead : 0 ≤ headI (y :: pre) := by rw [headI_cons]; omega
            have hl' : (pre.length : Int) < 63 := by have := hlen; simp only [List.length_cons] at this; omega
            gi_wp2_with (first
              | (gi_at_call 25; refine (CallsIn.inRound l (callsIn_wide.2 (has_any _ _ _ (by assumption)))).mono ?_; rintro e w' ⟨rfl, rfl⟩)
              | (gi_at_call 26; refine (CallsIn.inRound l (callsIn_wide.2 (with_any _ _ _ (by assumption)))).mono ?_; rintro e w' ⟨rfl, rfl⟩))
            exact ⟨(KeepsOthers.setCell _ _ _).trans (KeepsOthers.setCell _ _ _),
              keepC_t (keepC_set _ (by omega) _) (keepC_set _ (by omega) _),
              HGOOD.out, bx_step ((HX.out.setSeen hM _).setN hM _) (by simp) rfl,
              (HB.out.setCell (p := ⟨M + 1, 0, none⟩) (by simp; omega) _).setCell (p := ⟨M + 1 + 1, 0, none⟩) (by simp; omega) _⟩
      · gi_wp2_with (gi_at_call 25; refine (CallsIn.inRound l (callsIn_wide.2 (has_any _ _ _ (by assumption)))).mono ?_; rintro e w' ⟨rfl, rfl⟩)
        exact ⟨KeepsOthers.setCell _ _ _, bad_has (fun h => by rw [(hasN_iff s x).2 h] at k2; cases k2)⟩
  case done =>
    rintro D ys W hD rfl ⟨hg, hbx, hB⟩ hK
    clear hBX HB3 d5 d6
    have HGU := Hid.intro' hg
    have c0 := hbx.1.cell
    have c2 := hbx.2.2.1.cell
    have d5 := (Boxed.new W 33 (.int .u64 s)).alloc (.cells #[.int .i64 (f - 1)] 3)
    have d6 := Boxed.new (W.alloc (.cells #[.int .u64 s] 33)) 3 (.int .i64 (f - 1))
    rw [World.size_alloc] at d6
    have D5 := Hid.intro' d5
    have D6 := Hid.intro' d6
    have HX := Hid.intro' ((hbx.alloc (.cells #[.int .u64 s] 33)).alloc (.cells #[.int .i64 (f - 1)] 3))
    have HB := Hid.intro' ((hB.alloc hB.size (.cells #[.int .u64 s] 33)).alloc (by have := hB.size; simp; omega) (.cells #[.int .i64 (f - 1)] 3))
    have hDl := mark_lt hK
    have HK := Hid.intro' ((Below.heap_alloc (W.alloc (.cells #[.int .u64 s] 33)) (.cells #[.int .i64 (f - 1)] 3) D (by simp; omega)).trans ((Below.heap_alloc W (.cells #[.int .u64 s] 33) D hDl).trans hK))
    have hsz2 : ((W.alloc (.cells #[.int .u64 s] 33)).alloc (.cells #[.int .i64 (f - 1)] 3)).heap.size = W.heap.size + 2 := by simp only [World.size_alloc]
    have HS2 := Hid.intro' hsz2
    have hBM : M + 1 + 1 + 1 + 1 < W.heap.size := hbx.2.2.2.2.2.2.lt
    have hBw : w.heap.size ≤ W.heap.size := hB.size
    clear hg hbx hB hK d5 d6 hsz2
    gi_wp2_with (refine ⟨trivial, ?_⟩; gi_at_call 29; refine (callsIn_wide.2 (down_any _ _ _)).mono ?_; rintro e w' ⟨rfl, rfl⟩)
    clear c0 c2
    generalize (W.alloc (.cells #[.int .u64 s] 33)).alloc (.cells #[.int .i64 (f - 1)] 3) = WM at D5 D6 HX HB HK HS2 ⊢
    generalize W.heap.size = M2 at D5 D6 HS2 hDl hBM hBw ⊢
    have hsM := HS2.out
    refine wpIn_rangeFunc_ownF rfl (by decide) (gf := 39) (lb := #[.pointer (some ⟨M2 + 1, 0, none⟩), .pointer (some ⟨M2, 0, none⟩)]) rfl trivial (enters_of Try.func39 (by kernel_rfl) rfl)
      (down_stops 8 (M2 + 1) M2 s (f - 1) hs WM D6.out.lt D5.out.lt D6.out.cell D5.out.cell) keepC_t (keepC_b D5.out.lt) (Below.refl _ _) (fun _ => rfl)
      (fun pre W => Good s 0 f pre ∧ Bx W w.heap.size M f s (seenN (FM.upL s f ++ pre)) (((FM.upL s f).length : Int) + (pre.length : Nat)) (headI (FM.upL s f)) (headI pre) ∧ Below w.heap.size w W ∧ W.heap[D]? = some (.deferred (some [])))
      (fun c pre W => ¬ Good s 0 f pre)
      (OwnFrom.and (ownFrom_pure _ _) (OwnFrom.and (Own.from (bx_own _ _ _ _ _ _ _ _) _) (OwnFrom.and (ownFrom_below (Nat.le_refl _) (by omega)) (ownFrom_mark (by omega) _ (fun _ h => mark_lt h)))))
      (fun c => ownFrom_pure _ _)
      ⟨good_nil _ _ _, by rw [List.append_nil]; exact HX.out, HB.out, HK.out⟩
      ?a2 ?assign2 ?body2 ?done2 ?stop2
    case assign2 =>
      intro l x W K hK
      gi_wp2
      exact hK
    case stop2 =>
      rintro D c pre W hD hpre hbad hK
      exact absurd (good_down hpre hf1) hbad
    case body2 =>
      rintro l pre x W ⟨hg, hbx, hB, hmark⟩ hlen
      clear HX HB D5 D6 HK HS2
      have hUl : ((FM.upL s f).length : Int) ≤ 64 := by unfold FM.upL; have := FM.seg_length s f.toNat 64; omega
      have HG := Hid.intro' hg
      have HX := Hid.intro' hbx
      have HB := Hid.intro' hB
      have HM := Hid.intro' hmark
      have hDW := mark_lt hmark
      have c0 := hbx.1.cell
      have c1 := hbx.2.1.cell
      have f1 := hbx.2.1.frozen
      have c2 := hbx.2.2.1.cell
      have c3 := hbx.2.2.2.1.cell
      have f3 := hbx.2.2.2.1.frozen
      have c4 := hbx.2.2.2.2.1.cell
      have f4 := hbx.2.2.2.2.1.frozen
      have c6 := hbx.2.2.2.2.2.2.cell
      have f6 := hbx.2.2.2.2.2.2.frozen
      have hsn := seenN_lt (FM.upL s f ++ pre)
      clear hg hbx hB hmark
      have hwf : ∀ k : FuncId, Fence.wide.fn k := fun _ => trivial
      rcases Bool.eq_false_or_eq_true (FM.hasN (seenN (FM.upL s f ++ pre)) (x : Int)) with k1 | k1
      · gi_wp2_with (gi_at_call 25; refine (CallsIn.inRound l (callsIn_wide.2 (has_any _ _ _ (by assumption)))).mono ?_; rintro e w' ⟨rfl, rfl⟩)
        exact ⟨KeepsOthers.setCell _ _ _, bad_both HGU.out ((seenN_has _ x).1 k1)⟩
      · rcases Bool.eq_false_or_eq_true (FM.hasN s (x : Int)) with k2 | k2
        · by_cases k3 : f ≤ (x : Int)
          · gi_wp2_with (gi_at_call 25; refine (CallsIn.inRound l (callsIn_wide.2 (has_any _ _ _ (by assumption)))).mono ?_; rintro e w' ⟨rfl, rfl⟩)
            exact ⟨KeepsOthers.setCell _ _ _, bad_hi k3⟩
          · have k1' : ¬ (x < 64 ∧ x ∈ pre) := fun h => by rw [(seenN_has _ x).2 ⟨h.1, List.mem_append.2 (.inr h.2)⟩] at k1; cases k1
            have hgood := good_snoc HG.out k1' ((hasN_iff s x).1 k2) (show 0 ≤ (x : Int) by omega) (by omega)
            have HGOOD := Hid.intro' hgood
            have hlI : (pre.length : Int) < 64 := by omega
            clear k1' hgood
            cases pre with
            | nil =>
              rw [List.append_nil] at c3 hsn k1
              gi_wp2_with (first
                | (gi_at_call 25; refine (CallsIn.inRound l (callsIn_wide.2 (has_any _ _ _ (by assumption)))).mono ?_; rintro e w' ⟨rfl, rfl⟩)
                | (gi_at_call 26; refine (CallsIn.inRound l (callsIn_wide.2 (with_any _ _ _ (by assumption)))).mono ?_; rintro e w' ⟨rfl, rfl⟩))
              exact ⟨((KeepsOthers.setCell _ _ _).trans (KeepsOthers.setCell _ _ _)).trans (KeepsOthers.setCell _ _ _),
                keepC_t (keepC_t (keepC_set _ (by omega) _) (keepC_set _ (by omega) _)) (keepC_set _ (by omega) _),
                HGOOD.out, bx_step2 (by rw [List.append_nil]; exact ((HX.out.setDn hM _).setSeen hM _).setN hM _) (by simp) rfl,
                ((HB.out.setCell (p := ⟨M + 1 + 1 + 1 + 1, 0, none⟩) (by simp; omega) _).setCell (p := ⟨M + 1, 0, none⟩) (by simp; omega) _).setCell (p := ⟨M + 1 + 1, 0, none⟩) (by simp; omega) _,
                (((KeepsOthers.setCell _ _ _).trans (KeepsOthers.setCell _ _ _)).trans (KeepsOthers.setCell _ _ _)).same D _ HM.out rfl⟩
            | cons y pre =>
              have hhead : 0 ≤ headI (y :: pre) := by rw [headI_cons]; omega
              have hl' : (pre.length : Int) < 63 := by have := hlen; simp only [List.length_cons] at this; omega
              gi_wp2_with (first
                | (gi_at_call 25; refine (CallsIn.inRound l (callsIn_wide.2 (has_any _ _ _ (by assumption)))).mono ?_; rintro e w' ⟨rfl, rfl⟩)
                | (gi_at_call 26; refine (CallsIn.inRound l (callsIn_wide.2 (with_any _ _ _ (by assumption)))).mono ?_; rintro e w' ⟨rfl, rfl⟩))
              exact ⟨(KeepsOthers.setCell _ _ _).trans (KeepsOthers.setCell _ _ _),
                keepC_t (keepC_set _ (by omega) _) (keepC_set _ (by omega) _),
                HGOOD.out, bx_step2 ((HX.out.setSeen hM _).setN hM _) (by simp; omega) rfl,
                (HB.out.setCell (p := ⟨M + 1, 0, none⟩) (by simp; omega) _).setCell (p := ⟨M + 1 + 1, 0, none⟩) (by simp; omega) _,
                ((KeepsOthers.setCell _ _ _).trans (KeepsOthers.setCell _ _ _)).same D _ HM.out rfl⟩
        · gi_wp2_with (gi_at_call 25; refine (CallsIn.inRound l (callsIn_wide.2 (has_any _ _ _ (by assumption)))).mono ?_; rintro e w' ⟨rfl, rfl⟩)
          exact ⟨KeepsOthers.setCell _ _ _, bad_has (fun h => by rw [(hasN_iff s x).2 h] at k2; cases k2)⟩
    case done2 =>
      rintro D2 V W3 hD2 rfl ⟨hg, hbx, hB, hK1⟩ hK2
      clear HX HB D5 D6 HK HS2
      have c0 := hbx.1.cell
      have c2 := hbx.2.2.1.cell
      have HX := Hid.intro' hbx
      have HB := Hid.intro' hB
      have HK1 := Hid.intro' hK1
      have HK2 := Hid.intro' hK2
      clear hg hbx hB hK1 hK2
      gi_wp2_with fail
      refine ⟨trivial, ?_⟩
      refine (callsIn_wide.2 (nearest_any s f _ hs)).mono ?_
      rintro e W4 ⟨rfl, hb⟩
      have hbx := HX.out.below hb
      rw [both_seen s f hs hf0 hf1] at hbx
      have hB4 : Below w.heap.size w W4 := HB.out.trans (hb.mono HB.out.size)
      have hK1 := (hb.block D (mark_lt HK1.out)).trans HK1.out
      have hK2 := (hb.block D2 (mark_lt HK2.out)).trans HK2.out
      clear c0 c2 HX HB HK1 HK2 hb
      have c1 := hbx.2.1.cell
      have f1 := hbx.2.1.frozen
      have c2 := hbx.2.2.1.cell
      have c3 := hbx.2.2.2.1.cell
      have c4 : W4.cell? ⟨M + 1 + 1, 0, none⟩ = some (.int .i64 ((FM.cnt s 64 : Nat) : Int)) := by
        rw [← both_len s f hf0 hf1]; exact hbx.2.2.2.2.1.cell
      have c5 := hbx.2.2.2.2.2.1.cell
      have c6 := hbx.2.2.2.2.2.2.cell
      have HX := Hid.intro' hbx
      have HB := Hid.intro' hB4
      have HK1 := Hid.intro' hK1
      have HK2 := Hid.intro' hK2
      clear hbx hB4 hK1 hK2
      have e0 : ¬ M = w.heap.size + 1 := by omega
      have e1 : ¬ M + 1 = w.heap.size + 1 := by omega
      have e2 : ¬ M + 1 + 1 = w.heap.size + 1 := by omega
      have e3 : ¬ M + 1 + 1 + 1 = w.heap.size + 1 := by omega
      have e4 : ¬ M + 1 + 1 + 1 + 1 = w.heap.size + 1 := by omega
      obtain ⟨a, key⟩ := both_cases s f hf0 hf1
      rcases key with ⟨h, k1⟩ | ⟨h, k1, k2⟩ | ⟨h, k1, k2, k3⟩
      all_goals
        have k1' := (show decide (0 < FM.cnt s 64) = decide (0 < ((FM.cnt s 64 : Nat) : Int)) from decide_eq_decide.2 (by omega)).trans k1
        rw [h]
        clear h
        gi_wp2
        refine wpIn_wide.2 ?_
        refine wp_region_still_tail 29 (by kernel_rfl) (by kernel_rfl) ?_
        simp only [List.take_succ_cons, List.take_zero, List.drop_succ_cons, List.drop_zero]
        repeat still_step
        still_call (len_any _ _ hs)
        repeat still_step
        refine wpStill_nil ?_
        go_wp2
        clear c1 f1 c2 c3 c4 c5 c6 e0 e1 e2 e3 e4 k1 k1'
        gi_wp2
        have q2 : (W4.setCell ⟨w.heap.size + 1, 0, none⟩ (.bool true)).drew.heap[D2]? = some (.deferred (some [])) := (KeepsOthers.setCell W4 ⟨w.heap.size + 1, 0, none⟩ (.bool true)).same D2 _ HK2.out rfl
        have q1 : (W4.setCell ⟨w.heap.size + 1, 0, none⟩ (.bool true)).drew.heap[D]? = some (.deferred (some [])) := (KeepsOthers.setCell W4 ⟨w.heap.size + 1, 0, none⟩ (.bool true)).same D _ HK1.out rfl
        have q3 : Boxed (W4.setCell ⟨w.heap.size + 1, 0, none⟩ (.bool true)).drew (w.heap.size + 1) 4 (.bool true) := HX.out.2.1.set _
        have q4 : Below w.heap.size w (W4.setCell ⟨w.heap.size + 1, 0, none⟩ (.bool true)).drew := (HB.out.setCell (p := ⟨w.heap.size + 1, 0, none⟩) (by simp) _).drew
        generalize (W4.setCell ⟨w.heap.size + 1, 0, none⟩ (.bool true)).drew = W5 at q1 q2 q3 q4 ⊢
        have hne : D ≠ D2 := by omega
        have q5 : (W5.putObj D2 (.deferred none)).heap[D]? = some (.deferred (some [])) := (World.putObj_heap_other hne).trans q1
        have hc5 := cell_kept q3.cell (grownBy_putObj' _ D2 (.deferred none)) (fun r e => by cases e; exact ⟨_, q2, rfl⟩)
        have hc6 := cell_kept hc5 (grownBy_putObj' _ D (.deferred none)) (fun r e => by cases e; exact ⟨_, q5, rfl⟩)
        have hB5 := q4.trans (belowK_b (w := w) (Nat.le_refl _) W5 D2 _ (.deferred none) (by omega) q2 rfl rfl)
        have hB6 := hB5.trans (belowK_b (w := w) (Nat.le_refl _) _ D _ (.deferred none) (by omega) q5 rfl rfl)
        refine ⟨by simp, .inl ⟨_, _, rfl, run_takeDeferred q2, ?_⟩⟩
        refine ⟨by simp, .inl ⟨_, _, rfl, run_takeDeferred q5, ?_⟩⟩
        refine ⟨.bool true, ?_, rfl, hB6⟩
        simp [results, Try.f8, go_sem, hc6]

end Go.Proofs.Ytklekpkchpnmiaa
