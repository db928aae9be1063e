/- The document's Decode; both, of any bytes. -/
import Derived.Test.YtkbfljacjfaamadFrG
namespace Go.Proofs.Ytkbfljacjfaamad
open Go.RowKit

set_option maxHeartbeats 1000000 in
theorem rdecode_few (v : Value) (l : List Nat) (w : World) (h : RD w v l) (hl : l.length ≠ 10) :
    Calls Try.prog 27 #[v] w fun e w' => e = .returned (.tuple #[.agg #[.int .i64 noF.ki, .int .i64 noF.ca, .int .i64 noF.sq, .int .i64 noF.a, .int .i64 noF.b, .int .i64 noF.c], .int .i64 3]) ∧ Below w.heap.size w w' := by
  obtain ⟨a, cap, rfl, hc, hm, _⟩ := h.form
  clear h
  unfold maxLen at hm
  have hz : ((l.length : Int) != 10) = true := by simp; omega
  go_enter Try.func27, Try.ntmps27
  go_wp2
  exact bodyPost_ret (v := .tuple #[.agg #[.int .i64 noF.ki, .int .i64 noF.ca, .int .i64 noF.sq, .int .i64 noF.a, .int .i64 noF.b, .int .i64 noF.c], .int .i64 3]) (by simp [results, Try.results27, go_sem, noF]) rfl ⟨rfl, (Below.refl _ _).alloc (Nat.le_refl _) _⟩

set_option maxHeartbeats 4000000 in
theorem rdecode_ten (g o cap x0 x1 x2 x3 x4 x5 x6 x7 x8 x9 : Nat) (w : World) (h : RD w (.slice (some ⟨g, o, none⟩) 10 cap) [x0, x1, x2, x3, x4, x5, x6, x7, x8, x9]) :
    Calls Try.prog 27 #[.slice (some ⟨g, o, none⟩) 10 cap] w fun e w' => e = .returned (.tuple #[.agg #[.int .i64 (FC.df [x0, x1, x2, x3, x4, x5, x6, x7, x8, x9]).ki, .int .i64 (FC.df [x0, x1, x2, x3, x4, x5, x6, x7, x8, x9]).ca, .int .i64 (FC.df [x0, x1, x2, x3, x4, x5, x6, x7, x8, x9]).sq, .int .i64 (FC.df [x0, x1, x2, x3, x4, x5, x6, x7, x8, x9]).a, .int .i64 (FC.df [x0, x1, x2, x3, x4, x5, x6, x7, x8, x9]).b, .int .i64 (FC.df [x0, x1, x2, x3, x4, x5, x6, x7, x8, x9]).c], .int .i64 (FC.de [x0, x1, x2, x3, x4, x5, x6, x7, x8, x9] : Nat)]) ∧ Below w.heap.size w w' := by
  have hcap := h.len.2.1
  have c0 := h.cell (i := 0) rfl
  have c1 := h.cell (i := 1) rfl
  have c2 := h.cell (i := 2) rfl
  have c3 := h.cell (i := 3) rfl
  have c4 := h.cell (i := 4) rfl
  have c5 := h.cell (i := 5) rfl
  have c6 := h.cell (i := 6) rfl
  have c7 := h.cell (i := 7) rfl
  have c8 := h.cell (i := 8) rfl
  have c9 := h.cell (i := 9) rfl
  rw [Nat.add_zero] at c0
  have HR := Hid.intro' (h.alloc (.cells #[.int .i64 0, .int .i64 0, .int .i64 0, .int .i64 0, .int .i64 0, .int .i64 0] 55))
  have hg : g < w.heap.size := h.lt (by simp)
  have HB := Hid.intro' h.bs
  clear h
  by_cases h0 : x0 = 165
  · subst h0
    go_enter Try.func27, Try.ntmps27
    go_wp2_with fail
    have HN1 : Hid (FB (w.alloc (.cells #[.int .i64 0, .int .i64 0, .int .i64 0, .int .i64 0, .int .i64 0, .int .i64 0] 55)) w.heap.size noF) := FB.new w noF
    have HB1 := Hid.intro' ((Below.refl w.heap.size w).alloc (Nat.le_refl _) (.cells #[.int .i64 0, .int .i64 0, .int .i64 0, .int .i64 0, .int .i64 0, .int .i64 0] 55))
    have hgb : g ≠ w.heap.size := by omega
    generalize w.alloc (.cells #[.int .i64 0, .int .i64 0, .int .i64 0, .int .i64 0, .int .i64 0, .int .i64 0] 55) = W1 at HR HN1 HB1 ⊢
    clear c0 c1 c2 c3 c4 c5 c6 c7 c8 c9
    have hc8 : (8 : Int) ≤ (cap : Int) := by omega
    have c8 := HR.out.cell (i := 8) rfl
    have c9 := HR.out.cell (i := 9) rfl
    have b1 : x1 < 256 := HB.out x1 (by simp)
    have b2 : x2 < 256 := HB.out x2 (by simp)
    have b3 : x3 < 256 := HB.out x3 (by simp)
    have b4 : x4 < 256 := HB.out x4 (by simp)
    have b5 : x5 < 256 := HB.out x5 (by simp)
    have b6 : x6 < 256 := HB.out x6 (by simp)
    have b7 : x7 < 256 := HB.out x7 (by simp)
    have b8 : x8 < 256 := HB.out x8 (by simp)
    have b9 : x9 < 256 := HB.out x9 (by simp)
    have HR8 := Hid.intro' (HR.out.take 8 (by simp))
    have v8 := i64_byte b8
    have v9 := i64_byte b9
    have m8 : IntKind.i64.wrap ((x8 : Int) * 256) = (x8 : Int) * 256 := by rw [IntKind.wrap_i64]; omega
    have m9 : IntKind.i64.wrap ((x8 : Int) * 256 + (x9 : Int)) = (x8 : Int) * 256 + (x9 : Int) := by rw [IntKind.wrap_i64]; omega
    refine wp_region_still_tail 13 (by kernel_rfl) (by kernel_rfl) ?_
    simp only [List.take_succ_cons, List.take_zero, List.drop_succ_cons, List.drop_zero]
    unfold wpStill
    generalize hK : wpStill Try.prog _ _ _ _ = K
    go_simp
    subst hK
    unfold wpStill
    generalize hK : wpStill Try.prog _ _ _ _ = K
    go_simp
    subst hK
    unfold wpStill
    generalize hK : wpStill Try.prog _ _ _ _ = K
    go_simp
    refine ⟨_, rsum_any _ _ _ HR8.out.drew, ?_⟩
    subst hK
    unfold wpStill
    generalize hK : wpStill Try.prog _ _ _ _ = K
    go_simp
    subst hK
    unfold wpStill
    generalize hK : wpStill Try.prog _ _ _ _ = K
    go_simp
    subst hK
    unfold wpStill
    generalize hK : wpStill Try.prog _ _ _ _ = K
    go_simp
    subst hK
    unfold wpStill
    generalize hK : wpStill Try.prog _ _ _ _ = K
    go_simp
    subst hK
    unfold wpStill
    generalize hK : wpStill Try.prog _ _ _ _ = K
    go_simp
    subst hK
    unfold wpStill
    generalize hK : wpStill Try.prog _ _ _ _ = K
    go_simp
    subst hK
    unfold wpStill
    generalize hK : wpStill Try.prog _ _ _ _ = K
    go_simp
    subst hK
    unfold wpStill
    generalize hK : wpStill Try.prog _ _ _ _ = K
    go_simp
    subst hK
    unfold wpStill
    generalize hK : wpStill Try.prog _ _ _ _ = K
    go_simp
    subst hK
    unfold wpStill
    generalize hK : wpStill Try.prog _ _ _ _ = K
    go_simp
    subst hK
    refine wpStill_nil ?_
    change wpList Try.prog _ _ _ _ W1.drew
    have HN2 := Hid.intro' HN1.out.drew
    have HR2 := Hid.intro' HR.out.drew
    have HB2 := Hid.intro' HB1.out.drew
    clear HR HN1 HB1 c8 c9 HR8 v8 v9 m8 m9
    generalize W1.drew = W2 at HR2 HN2 HB2 ⊢
    generalize hcr : FC.crc [165, x1, x2, x3, x4, x5, x6, x7] = n
    have HC := Hid.intro' hcr
    clear hcr
    by_cases hs : n = x8 * 256 + x9
    · have hs1 : ((n : Int) != (x8 : Int) * 256 + (x9 : Int)) = false := by simp; omega
      have HS := Hid.intro' hs
      clear hs
      have c1 := HR2.out.cell (i := 1) rfl
      by_cases hk1 : x1 < 1
      · have hk2 : (x1 : Int) < 1 := by omega
        go_wp2_with (refine wpList_storeF rfl _ _ rfl w.heap.size rfl rfl (f' := noF) HN2.out ?_)
        intro W4 hF4 hk4
        have HN4 := Hid.intro' hF4
        have HB4 := Hid.intro' (hk4.below HB2.out HB2.out.size (fun i hi e => by omega))
        clear hF4 hk4 HN2 HB2
        go_wp2
        have e1 : FC.de [165, x1, x2, x3, x4, x5, x6, x7, x8, x9] = 3 := by
          rw [de_ten, if_pos rfl, if_pos (HC.out.trans HS.out), if_neg]
          omega
        refine bodyPost_ret (retF2 Try.results27 rfl rfl HN4.out) rfl ⟨?_, HB4.out⟩
        rw [df_no (by omega), e1]; rfl
      · have hk2 : ¬ (x1 : Int) < 1 := by omega
        by_cases hk3 : 3 < x1
        · have hk4 : (3 : Int) < (x1 : Int) := by omega
          go_wp2_with (refine wpList_storeF rfl _ _ rfl w.heap.size rfl rfl (f' := noF) HN2.out ?_)
          intro W4 hF4 hk4
          have HN4 := Hid.intro' hF4
          have HB4 := Hid.intro' (hk4.below HB2.out HB2.out.size (fun i hi e => by omega))
          clear hF4 hk4 HN2 HB2
          go_wp2
          have e1 : FC.de [165, x1, x2, x3, x4, x5, x6, x7, x8, x9] = 3 := by
            rw [de_ten, if_pos rfl, if_pos (HC.out.trans HS.out), if_neg]
            omega
          refine bodyPost_ret (retF2 Try.results27 rfl rfl HN4.out) rfl ⟨?_, HB4.out⟩
          rw [df_no (by omega), e1]; rfl
        · have hk4 : ¬ (3 : Int) < (x1 : Int) := by omega
          have v1 := i64_byte b1
          have v2 := i64_byte b2
          have v5 := i64_byte b5
          have v6 := i64_byte b6
          have v7 := i64_byte b7
          have c2 := HR2.out.cell (i := 2) rfl
          have c3 := HR2.out.cell (i := 3) rfl
          have c4 := HR2.out.cell (i := 4) rfl
          have c5 := HR2.out.cell (i := 5) rfl
          have c6 := HR2.out.cell (i := 6) rfl
          have c7 := HR2.out.cell (i := 7) rfl
          have v3 := i64_byte b3
          have v4 := i64_byte b4
          have m3 : IntKind.i64.wrap ((x3 : Int) * 256) = (x3 : Int) * 256 := by rw [IntKind.wrap_i64]; omega
          have m4 : IntKind.i64.wrap ((x3 : Int) * 256 + (x4 : Int)) = (x3 : Int) * 256 + (x4 : Int) := by rw [IntKind.wrap_i64]; omega
          go_wp2_with fail
          refine wp_region_still_tail 31 (by kernel_rfl) (by kernel_rfl) ?_
          simp only [List.take_succ_cons, List.take_zero, List.drop_succ_cons, List.drop_zero]
          unfold wpStill
          generalize hK : wpStill Try.prog _ _ _ _ = K
          go_simp
          subst hK
          unfold wpStill
          generalize hK : wpStill Try.prog _ _ _ _ = K
          go_simp
          subst hK
          unfold wpStill
          generalize hK : wpStill Try.prog _ _ _ _ = K
          go_simp
          subst hK
          unfold wpStill
          generalize hK : wpStill Try.prog _ _ _ _ = K
          go_simp
          subst hK
          unfold wpStill
          generalize hK : wpStill Try.prog _ _ _ _ = K
          go_simp
          subst hK
          unfold wpStill
          generalize hK : wpStill Try.prog _ _ _ _ = K
          go_simp
          subst hK
          unfold wpStill
          generalize hK : wpStill Try.prog _ _ _ _ = K
          go_simp
          subst hK
          unfold wpStill
          generalize hK : wpStill Try.prog _ _ _ _ = K
          go_simp
          subst hK
          unfold wpStill
          generalize hK : wpStill Try.prog _ _ _ _ = K
          go_simp
          subst hK
          unfold wpStill
          generalize hK : wpStill Try.prog _ _ _ _ = K
          go_simp
          subst hK
          unfold wpStill
          generalize hK : wpStill Try.prog _ _ _ _ = K
          go_simp
          subst hK
          unfold wpStill
          generalize hK : wpStill Try.prog _ _ _ _ = K
          go_simp
          subst hK
          unfold wpStill
          generalize hK : wpStill Try.prog _ _ _ _ = K
          go_simp
          subst hK
          unfold wpStill
          generalize hK : wpStill Try.prog _ _ _ _ = K
          go_simp
          subst hK
          unfold wpStill
          generalize hK : wpStill Try.prog _ _ _ _ = K
          go_simp
          subst hK
          unfold wpStill
          generalize hK : wpStill Try.prog _ _ _ _ = K
          go_simp
          subst hK
          unfold wpStill
          generalize hK : wpStill Try.prog _ _ _ _ = K
          go_simp
          subst hK
          unfold wpStill
          generalize hK : wpStill Try.prog _ _ _ _ = K
          go_simp
          subst hK
          unfold wpStill
          generalize hK : wpStill Try.prog _ _ _ _ = K
          go_simp
          subst hK
          unfold wpStill
          generalize hK : wpStill Try.prog _ _ _ _ = K
          go_simp
          subst hK
          unfold wpStill
          generalize hK : wpStill Try.prog _ _ _ _ = K
          go_simp
          subst hK
          unfold wpStill
          generalize hK : wpStill Try.prog _ _ _ _ = K
          go_simp
          subst hK
          unfold wpStill
          generalize hK : wpStill Try.prog _ _ _ _ = K
          go_simp
          subst hK
          unfold wpStill
          generalize hK : wpStill Try.prog _ _ _ _ = K
          go_simp
          subst hK
          unfold wpStill
          generalize hK : wpStill Try.prog _ _ _ _ = K
          go_simp
          subst hK
          unfold wpStill
          generalize hK : wpStill Try.prog _ _ _ _ = K
          go_simp
          subst hK
          unfold wpStill
          generalize hK : wpStill Try.prog _ _ _ _ = K
          go_simp
          subst hK
          unfold wpStill
          generalize hK : wpStill Try.prog _ _ _ _ = K
          go_simp
          subst hK
          unfold wpStill
          generalize hK : wpStill Try.prog _ _ _ _ = K
          go_simp
          subst hK
          unfold wpStill
          generalize hK : wpStill Try.prog _ _ _ _ = K
          go_simp
          subst hK
          unfold wpStill
          generalize hK : wpStill Try.prog _ _ _ _ = K
          go_simp
          subst hK
          refine wpStill_nil ?_
          change wpList Try.prog _ _ _ _ W2.drew
          have HN4 := Hid.intro' HN2.out.drew
          have HB4 := Hid.intro' HB2.out.drew
          clear HR2 HN2 HB2
          generalize W2.drew = W4 at HN4 HB4 ⊢
          refine wpList_storeF rfl _ _ rfl w.heap.size rfl rfl (f' := ⟨x1, x2, x3 * 256 + x4, x5, x6, x7⟩) HN4.out ?_
          intro W5 hF5 hk5
          have HN5 := Hid.intro' hF5
          have HB5 := Hid.intro' (hk5.below HB4.out HB4.out.size (fun i hi e => by omega))
          clear hF5 hk5 HN4 HB4
          go_wp2
          have e1 : FC.de [165, x1, x2, x3, x4, x5, x6, x7, x8, x9] = 0 := by
            rw [de_ten, if_pos rfl, if_pos (HC.out.trans HS.out), if_pos]
            omega
          refine bodyPost_ret (retF2 Try.results27 rfl rfl HN5.out) rfl ⟨?_, HB5.out⟩
          rw [df_yes e1, e1]; rfl
    · have hs1 : ((n : Int) != (x8 : Int) * 256 + (x9 : Int)) = true := by simp; omega
      have HS := Hid.intro' hs
      clear hs
      go_wp2_with (refine wpList_storeF rfl _ _ rfl w.heap.size rfl rfl (f' := noF) HN2.out ?_)
      intro W3 hF3 hk3
      have HN3 := Hid.intro' hF3
      have HB3 := Hid.intro' (hk3.below HB2.out HB2.out.size (fun i hi e => by omega))
      clear hF3 hk3 HN2 HB2
      go_wp2
      have e1 : FC.de [165, x1, x2, x3, x4, x5, x6, x7, x8, x9] = 6 := by
        rw [de_ten, if_pos rfl, if_neg (fun e => HS.out (HC.out.symm.trans e))]
      refine bodyPost_ret (retF2 Try.results27 rfl rfl HN3.out) rfl ⟨?_, HB3.out⟩
      rw [df_no (by omega), e1]; rfl
  · have hz : ((x0 : Int) != 165) = true := by simp; omega
    go_enter Try.func27, Try.ntmps27
    go_wp2
    have e1 : FC.de [x0, x1, x2, x3, x4, x5, x6, x7, x8, x9] = 3 := by unfold FC.de; rw [if_neg (fun e => h0 e.2)]
    have e2 : FC.df [x0, x1, x2, x3, x4, x5, x6, x7, x8, x9] = noF := by unfold FC.df; rw [e1]; rfl
    rw [e1, e2]
    exact bodyPost_ret (v := .tuple #[.agg #[.int .i64 noF.ki, .int .i64 noF.ca, .int .i64 noF.sq, .int .i64 noF.a, .int .i64 noF.b, .int .i64 noF.c], .int .i64 3]) (by simp [results, Try.results27, go_sem, noF]) rfl ⟨rfl, (Below.refl _ _).alloc (Nat.le_refl _) _⟩

theorem list10 {l : List Nat} (h : l.length = 10) : ∃ x0 x1 x2 x3 x4 x5 x6 x7 x8 x9, l = [x0, x1, x2, x3, x4, x5, x6, x7, x8, x9] := by
  match l, h with
  | [x0, x1, x2, x3, x4, x5, x6, x7, x8, x9], _ => exact ⟨x0, x1, x2, x3, x4, x5, x6, x7, x8, x9, rfl⟩
theorem de_few {l : List Nat} (h : l.length ≠ 10) : FC.de l = 3 := by unfold FC.de; rw [if_neg (fun e => h e.1)]
theorem df_few {l : List Nat} (h : l.length ≠ 10) : FC.df l = noF := by unfold FC.df; rw [de_few h]; rfl
theorem decode_any (v : Value) (l : List Nat) (w : World) (h : RD w v l) :
    Calls Try.prog 26 #[v] w fun e w' => e = .returned (.tuple #[.agg #[.int .i64 (FC.df l).ki, .int .i64 (FC.df l).ca, .int .i64 (FC.df l).sq, .int .i64 (FC.df l).a, .int .i64 (FC.df l).b, .int .i64 (FC.df l).c], .int .i64 (FC.de l : Nat)]) ∧ Below w.heap.size w w' := by
  by_cases hl : l.length = 10
  · obtain ⟨a, cap, rfl, hc, hm, ha⟩ := h.form
    obtain ⟨x0, x1, x2, x3, x4, x5, x6, x7, x8, x9, rfl⟩ := list10 hl
    rcases ha with ha | ⟨g, o, rfl, _⟩
    · cases ha
    · exact decode_ten g o cap x0 x1 x2 x3 x4 x5 x6 x7 x8 x9 w h
  · rw [de_few hl, df_few hl]
    exact decode_few v l w h hl
theorem rdecode_any (v : Value) (l : List Nat) (w : World) (h : RD w v l) :
    Calls Try.prog 27 #[v] w fun e w' => e = .returned (.tuple #[.agg #[.int .i64 (FC.df l).ki, .int .i64 (FC.df l).ca, .int .i64 (FC.df l).sq, .int .i64 (FC.df l).a, .int .i64 (FC.df l).b, .int .i64 (FC.df l).c], .int .i64 (FC.de l : Nat)]) ∧ Below w.heap.size w w' := by
  by_cases hl : l.length = 10
  · obtain ⟨a, cap, rfl, hc, hm, ha⟩ := h.form
    obtain ⟨x0, x1, x2, x3, x4, x5, x6, x7, x8, x9, rfl⟩ := list10 hl
    rcases ha with ha | ⟨g, o, rfl, _⟩
    · cases ha
    · exact rdecode_ten g o cap x0 x1 x2 x3 x4 x5 x6 x7 x8 x9 w h
  · rw [de_few hl, df_few hl]
    exact rdecode_few v l w h hl

end Go.Proofs.Ytkbfljacjfaamad
