/- CheckMarks. -/
import Derived.Test.YtagmidolcdefiahCkS
import Derived.Test.YtagmidolcdefiahPk14
import Derived.Test.YtagmidolcdefiahCkY
import Derived.Test.YtagmidolcdefiahNewN
import Derived.Test.YtagmidolcdefiahSlO
import Derived.Test.YtagmidolcdefiahPk13
namespace Go.Proofs.Ytagmidolcdefiah
open Go.RowKit Go.Shelf
set_option maxRecDepth 100000 in
set_option maxHeartbeats 8000000 in
theorem CheckMarks_any (s : Sn) (D : Nat → Prop) (vc vw : Value) (a1 : Int) (m : Nat) (hm : m < 256) (w : World) (hc : R2 D w vc s.cs) (hw : R2 D w vw s.ws) :
    Calls Try.prog 7 #[.agg (nv s.st vc vw).toArray, .int .i64 a1, .int .u8 (m : Int)] w fun e w' => e = .returned (.bool true) ∧ Below w.heap.size w w' := by
  have hbx := (Below.refl w.heap.size w).alloc (Nat.le_refl _) (.cells (nv s.st vc vw).toArray 27)
  have HN := Hid.intro' (NB.new w s.st vc vw)
  have HB := Hid.intro' hbx
  have HC := Hid.intro' ((hc.mono (D' := fun _ => True) fun _ _ _ _ => trivial).below' hbx)
  have HW := Hid.intro' ((hw.mono (D' := fun _ => True) fun _ _ _ _ => trivial).below' hbx)
  obtain ⟨ac, kc, rfl, _, _⟩ := hc.form
  obtain ⟨aw, kw, rfl, _, _⟩ := hw.form
  clear hc hw hbx
  go_enter Try.func7, Try.ntmps7
  go_wp2_with fail
  refine (speaks13_any _).mono ?_
  rintro e W1 ⟨rfl, hb1⟩
  have HB1 := Hid.intro' (below_class HB.out hb1)
  have HN1 := Hid.intro' (HN.out.below' hb1)
  have HC1 := Hid.intro' (HC.out.below' hb1)
  have HW1 := Hid.intro' (HW.out.below' hb1)
  clear hb1 HN HB HC HW
  go_wp2_with (refine wpList_load27g rfl _ rfl w.heap.size s.st _ _ rfl HN1.out ?_)
  refine (great_any s _ _ _ _ [] W1 HC1.out HW1.out (RL.nil _ _)).mono ?_
  rintro e W2 ⟨⟨g, rfl, hb2, hs⟩⟩
  have HB2 := Hid.intro' (below_class HB1.out hb2)
  have HN2 := Hid.intro' (HN1.out.below' hb2)
  have HC2 := Hid.intro' (HC1.out.below' hb2)
  have HW2 := Hid.intro' (HW1.out.below' hb2)
  clear hb2 hs HN1 HB1 HC1 HW1
  cases g with
  | true =>
    go_wp2
    go_ret
    exact ⟨rfl, HB2.out⟩
  | false =>
    have c14 : W2.cell? ⟨w.heap.size, 14, none⟩ = some (.slice aw s.ws.length kw) := HN2.out.cell 14
    have HRR := Hid.intro' (rsnapRight_any s _ _ _ W2 HC2.out HW2.out)
    clear c14
    go_wp2_with (refine wpList_load27g (by go_simp) _ rfl w.heap.size s.st _ _ rfl HN2.out ?_)
    refine HRR.out.mono ?_
    rintro e W3 ⟨rfl, hb3⟩
    have HB3 := Hid.intro' (below_class HB2.out hb3)
    have HN3 := Hid.intro' (HN2.out.below' hb3)
    have HC3 := Hid.intro' (HC2.out.below' hb3)
    have HW3 := Hid.intro' (HW2.out.below' hb3)
    have c14 : W3.cell? ⟨w.heap.size, 14, none⟩ = some (.slice aw s.ws.length kw) := HN3.out.cell 14
    clear hb3 HRR HB2 HN2 HC2 HW2
    cases hr : rgt s with
    | false =>
      clear hr
      go_wp2
      go_ret
      exact ⟨rfl, HB3.out⟩
    | true =>
      have HR := Hid.intro' hr
      by_cases h5 : 5 < s.ws.length
      · have q5 : (5 : Int) < (s.ws.length : Int) := by omega
        clear hr
        go_wp2
        go_ret
        exact ⟨rfl, HB3.out⟩
      · have q5 : ¬ (5 : Int) < (s.ws.length : Int) := by omega
        have HFI := Hid.intro' (find_yes (s := s) (B := 2000) HC3.out HW3.out hr (by omega) (by omega))
        rw [show ((2000 : Nat) : Int) = 2000 from rfl] at HFI
        clear hr
        go_wp2_with (refine wpList_load27g rfl _ rfl w.heap.size s.st _ _ rfl HN3.out ?_)
        clear c14 q5
        refine HFI.out.mono ?_
        rintro e W4 ⟨vp, vf, rfl, hrl, hoy, hb4⟩
        have HBD := Hid.intro' (fnd_bd (B := 2000) HR.out)
        obtain ⟨gf, kf, rfl⟩ := hoy.some (by unfold prf; simp)
        have HB4 := Hid.intro' (below_class HB3.out hb4)
        have HN4 := Hid.intro' (HN3.out.below' hb4)
        have HC4 := Hid.intro' (HC3.out.below' hb4)
        have HW4 := Hid.intro' (HW3.out.below' hb4)
        have HL4 := Hid.intro' hrl
        have HO4 := Hid.intro' hoy
        have HZ := Hid.intro' (GB.new W4 (.slice none 0 0) 0 false 0 (.slice none 0 0))
        have hbz := (Below.refl W4.heap.size W4).alloc (Nat.le_refl _) (.cells #[.slice none 0 0, .int .i64 0, .bool false, .int .i64 0, .slice none 0 0] 35)
        have HBZ := Hid.intro' hbz
        obtain ⟨ar, kr, rfl, _, _⟩ := hrl.form
        clear hbz hb4 hrl hoy HB3 HN3 HC3 HW3 HFI h5
        have HPB := Hid.intro' (prf_byt (B := 2000) HR.out)
        have HPN := Hid.intro' (prf_len (B := 2000) HR.out)
        have HCM : Hid ((fnd s 2000).ended = false → ∀ m, ckw s (prf (fnd s 2000) ++ [m]) = (10, clm0)) := fun he m => ckw_more HR.out he m
        have HCL : Hid ((fnd s 2000).ended = false → ckw s ((prf (fnd s 2000)).take ((prf (fnd s 2000)).length - 1)) = (10, clm0)) := fun he => ckw_less HR.out he
        have HCT : Hid ((fnd s 2000).ended = false → ∀ i m, ckw s ((prf (fnd s 2000)).set ((prf (fnd s 2000)).length - (fnd s 2000).marks.length + i) m) = (10, clm0) ∨ ckw s ((prf (fnd s 2000)).set ((prf (fnd s 2000)).length - (fnd s 2000).marks.length + i) m) = (0, ⟨true, (fnd s 2000).cost, (fnd s 2000).plan⟩)) := fun he i m => ckw_turn HR.out he i m
        have HMS : Hid ((fnd s 2000).ended = false → 0 < (fnd s 2000).marks.length ∧ (fnd s 2000).marks.length ≤ (prf (fnd s 2000)).length) := fun he => ⟨fnd_some HR.out he, by rw [prf_whole he, List.length_append]; omega⟩
        obtain ⟨x, HX⟩ : ∃ x, Hid (fnd s 2000 = x) := ⟨_, Hid.intro' rfl⟩
        rw [HX.out] at HL4 HO4 HBD HPB HPN HCM HCL HCT HMS ⊢
        clear HX
        go_wp2_with (refine wpList_storeG rfl _ _ rfl W4.heap.size rfl rfl HZ.out ?_)
        intro W5 hk5 hg5
        have hb5 := hk5.below HBZ.out HBZ.out.size (fun i hi e => by omega)
        have HB5 := Hid.intro' (below_class HB4.out hb5)
        have HN5 := Hid.intro' (HN4.out.below' hb5)
        have HC5 := Hid.intro' (HC4.out.below' hb5)
        have HW5 := Hid.intro' (HW4.out.below' hb5)
        have HL5 := Hid.intro' (HL4.out.below' hb5)
        have HO5 := Hid.intro' (HO4.out.below' hb5)
        have HG5 := Hid.intro' hg5
        clear hb5 hk5 hg5 HB4 HN4 HC4 HW4 HL4 HO4 HZ HBZ
        generalize W4.heap.size = rb at HG5 ⊢
        have c2 : W5.cell? ⟨rb, 2, none⟩ = some (.bool (!x.ended)) := HG5.out.cell 2
        cases hen : x.ended with
        | true =>
          rw [hen] at c2
          clear hen
          go_wp2
          go_ret
          exact ⟨rfl, HB5.out⟩
        | false =>
          rw [hen] at c2 HG5
          have HM1 := Hid.intro' (HMS.out hen)
          have HK1 := Hid.intro' (HCM.out hen m)
          have HK2 := Hid.intro' (HCL.out hen)
          have HK3 := Hid.intro' fun i => HCT.out hen i m
          clear hen HMS HCM HCL HCT
          obtain ⟨pf, HPF⟩ : ∃ l, Hid (prf x = l) := ⟨_, Hid.intro' rfl⟩
          rw [HPF.out] at HPB HPN HM1 HK1 HK2 HK3 HO5 HG5
          obtain ⟨M, HMM⟩ : ∃ l, Hid (x.marks.length = l) := ⟨_, Hid.intro' rfl⟩
          rw [HMM.out] at HM1 HK3 HG5
          have c3 : W5.cell? ⟨rb, 3, none⟩ = some (.int .i64 (M : Int)) := HG5.out.cell 3
          have c4 : W5.cell? ⟨rb, 4, none⟩ = some (.slice (some ⟨gf, 0, none⟩) pf.length kf) := HG5.out.cell 4
          have HDR : Hid (∀ w', Below W5.drew.heap.size W5.drew w' → Below W5.heap.size W5 w') := fun w' hw => ((Below.refl _ W5).drew).trans hw
          have R4 : Hid (∀ w', Below W5.drew.heap.size W5.drew w' → w'.cell? ⟨rb, 4, none⟩ = some (.slice (some ⟨gf, 0, none⟩) pf.length kf)) := fun w' hw => (HG5.out.below' (HDR.out w' hw)).cell 4
          have HY5 : Hid (RY (fun _ => True) W5 (.slice (some ⟨gf, 0, none⟩) pf.length kf) pf) := HO5.out.ry HPB.out fun _ _ => trivial
          have hpn : pf.length ≤ 3041 := HPN.out
          have hp1 : 1 ≤ pf.length := by have := HM1.out; omega
          have hkf : pf.length - 1 ≤ kf := by
            obtain ⟨_, _, e, h1, _⟩ := HY5.out.form
            cases e
            omega
          have hws : IntKind.i64.wrap ((pf.length : Int) - (M : Int)) = (pf.length : Int) - (M : Int) := IntWalk.i64_in _ (by have := HM1.out; omega)
          have hw1 : IntKind.i64.wrap ((pf.length : Int) - 1) = (pf.length : Int) - 1 := IntWalk.i64_in _ (by omega)
          go_wp2_with fail
          clear c2 c3 c4
          refine wp_normal ?_
          refine wp_region_last2 16 (.int .i64 0) rfl rfl (by kernel_rfl) (by kernel_rfl) (by kernel_rfl) (by kernel_rfl) (by kernel_rfl) (fun _ _ _ h => by cases h.1) (yields_val rfl (fun w => by go_simp)) ?_
          simp only [List.take_succ_cons, List.take_zero]
          refine wpAny_rows 14 [0, 3, 5, 6] [(3, 0), (6, 3)] (fun j v w => OY w W5.drew.heap.size v (if j = 0 then [] else if j = 3 then pf else if j = 5 then [m] else pf ++ [m])) (by kernel_rfl) (rowsY_ok _ _) ?_
          conv => arg 5; simp [calmL]
          unfold wpCalm
          generalize hK : wpCalm Try.prog _ _ _ _ = K
          unfold Oper.calm
          go_simp
          refine ⟨_, fun _ _ => rfl, ?_⟩
          subst hK
          unfold wpCalm
          generalize hK : wpCalm Try.prog _ _ _ _ = K
          rw [if_pos (by go_simp)]
          refine calm_cellY _ rb 4 rfl rfl R4.out ?_
          go_simp
          subst hK
          unfold wpCalm
          generalize hK : wpCalm Try.prog _ _ _ _ = K
          unfold Oper.calm
          go_simp
          refine ⟨_, fun _ _ => rfl, ?_⟩
          subst hK
          unfold wpCalm
          generalize hK : wpCalm Try.prog _ _ _ _ = K
          unfold Oper.calm
          go_simp
          refine ⟨_, fun _ _ => rfl, ?_⟩
          subst hK
          unfold wpCalm
          generalize hK : wpCalm Try.prog _ _ _ _ = K
          rw [if_pos (by go_simp)]
          refine calm_cellY _ rb 4 rfl rfl R4.out ?_
          go_simp
          subst hK
          unfold wpCalm
          generalize hK : wpCalm Try.prog _ _ _ _ = K
          unfold Oper.calm
          go_simp
          refine ⟨_, fun _ _ => rfl, ?_⟩
          subst hK
          unfold wpCalm
          generalize hK : wpCalm Try.prog _ _ _ _ = K
          rw [if_pos (by go_simp)]
          refine calm_cellY _ rb 4 rfl rfl R4.out ?_
          go_simp
          subst hK
          unfold wpCalm
          generalize hK : wpCalm Try.prog _ _ _ _ = K
          unfold Oper.calm
          go_simp
          refine ⟨_, fun _ _ => rfl, ?_⟩
          subst hK
          unfold wpCalm
          generalize hK : wpCalm Try.prog _ _ _ _ = K
          unfold Oper.calm
          go_simp
          refine ⟨_, fun _ _ => rfl, ?_⟩
          subst hK
          unfold wpCalm
          generalize hK : wpCalm Try.prog _ _ _ _ = K
          rw [if_pos (by go_simp)]
          refine calm_cutY _ _ (pf.length - 1) (by omega) rfl rfl rfl hkf ?_
          go_simp
          subst hK
          refine wpCalm_nil ⟨?_, ?_⟩
          · intro i o hi ho ρ w' hb h1 h2
            simp only [List.mem_cons, List.not_mem_nil, or_false] at hi
            rcases hi with rfl | rfl | rfl | rfl
            · cases ho
              refine RowDo.lit rfl 0 (.cells #[] 5) ?_ (OY.lit (B := W5.drew.heap.size) w' [] hb.size (Nat.zero_le _))
              simp only [rwv, pl, List.foldl, dstOf]
              go_simp
            · cases ho
              exact RowDo.appY rfl (.tmp 48) (.tmp 50) rfl _ (ρ 0) (.slice (some ⟨gf, 0, none⟩) pf.length kf) [] pf _ (by rfl) (h1 0 (by simp) (by kernel_rfl)) (by rfl) (HY5.out.below' (HDR.out w' hb)) (by simp; omega) hb.size
            · cases ho
              refine RowDo.lit rfl 1 (.cells #[.int .u8 (m : Int)] 5) ?_ (OY.lit (B := W5.drew.heap.size) w' [m] hb.size (by unfold maxLen; simp))
              simp only [rwv, pl, List.foldl, dstOf]
              go_simp
            · cases ho
              have h5 : OY w' W5.drew.heap.size (ρ 5) [m] := h1 5 (by simp) (by kernel_rfl)
              exact RowDo.appY rfl (.tmp 51) (.tmp 53) rfl _ (ρ 3) (ρ 5) pf [m] (fun _ => True) (by rfl) (h1 3 (by simp) (by kernel_rfl)) (by rfl) (h5.ry (fun y hy => by simp at hy; omega) fun _ _ => trivial) (by simp; omega) hb.size
          · intro ρ w' hb hlive
            have ho : OY w' W5.drew.heap.size (ρ 6) (pf ++ [m]) := hlive 6 (by simp) (by rfl)
            simp only [rwv, pl, List.foldl, dstOf]
            generalize ρ 0 = v0
            generalize ρ 3 = v3
            generalize ρ 5 = v5
            generalize ρ 6 = v6 at ho ⊢
            obtain ⟨g6, k6, rfl⟩ := ho.some (by simp)
            have hb6 := HDR.out w' hb
            have HO6 := Hid.intro' ho
            have HB6 := Hid.intro' hb6
            clear hlive ho hb hb6
            go_wp2_with fail
            have hba := (Below.refl w'.heap.size w').alloc (Nat.le_refl _) (.cells #[.slice (some ⟨g6, 0, none⟩) (pf.length + 1) k6, .slice (some ⟨gf, 0, none⟩) (pf.length - 1) kf] 33)
            have HLB : Hid ((w'.alloc (.cells #[.slice (some ⟨g6, 0, none⟩) (pf.length + 1) k6, .slice (some ⟨gf, 0, none⟩) (pf.length - 1) kf] 33)).heap[w'.heap.size]? = some (.cells #[.slice (some ⟨g6, 0, none⟩) (pf.length + 1) k6, .slice (some ⟨gf, 0, none⟩) (pf.length - 1) kf] 33 (0, 0))) := World.alloc_heap_new w' _
            have HBA := Hid.intro' (below_class HB6.out hba)
            have HYA : Hid (RY (fun _ => True) (w'.alloc (.cells #[.slice (some ⟨g6, 0, none⟩) (pf.length + 1) k6, .slice (some ⟨gf, 0, none⟩) (pf.length - 1) kf] 33)) (.slice (some ⟨g6, 0, none⟩) (pf.length + 1) k6) (pf ++ [m])) := by
              have := (HO6.out.below' hba).ry (D := fun _ => True) (fun y hy => by
                rcases List.mem_append.1 hy with hy | hy
                · exact HPB.out y hy
                · simp at hy; omega) fun _ _ => trivial
              rwa [List.length_append] at this
            have HYC := Hid.intro' ((HY5.out.below' HBA.out).cut (j := pf.length - 1) (by omega))
            clear hba HO6 HB6
            generalize w'.alloc (.cells #[.slice (some ⟨g6, 0, none⟩) (pf.length + 1) k6, .slice (some ⟨gf, 0, none⟩) (pf.length - 1) kf] 33) = WL at HLB HBA HYA HYC ⊢
            generalize w'.heap.size = lb at HLB ⊢
            have HLL := Hid.intro' (show lb < WL.heap.size from (Array.getElem?_eq_some_iff.1 HLB.out).1)
            go_loopw [64] (fun iv wr => ∃ i : Nat, i ≤ 2 ∧ iv = .int .i64 (i : Int) ∧ Hid (Below WL.heap.size WL wr)) (fun iv _ => 2 - (intOf iv).toNat)
            case atStart => exact ⟨0, Nat.zero_le _, rfl, Below.refl _ _⟩
            case round =>
              obtain ⟨i, hi, rfl, HBL⟩ := hrel
              have HBR := Hid.intro' (below_class HBA.out HBL.out)
              have HNL := Hid.intro' (HN5.out.below' HBR.out)
              have l0 : wr.cell? ⟨lb, 0, none⟩ = some (.slice (some ⟨g6, 0, none⟩) (pf.length + 1) k6) := blk_cell ((HBL.out.block lb HLL.out).trans HLB.out) 0
              have l1 : wr.cell? ⟨lb, 1, none⟩ = some (.slice (some ⟨gf, 0, none⟩) (pf.length - 1) kf) := blk_cell ((HBL.out.block lb HLL.out).trans HLB.out) 1
              by_cases hi2 : i < 2
              · rcases (show i = 0 ∨ i = 1 by omega) with rfl | rfl
                · clear hi hi2
                  have HCC := Hid.intro' (check_any s (fun _ => True) _ _ _ (pf ++ [m]) wr (HC5.out.below' HBR.out) (HW5.out.below' HBR.out) (HYA.out.below' HBL.out) (by simp; omega))
                  go_wp2_with (refine wpList_load27g rfl _ rfl w.heap.size s.st _ _ rfl HNL.out ?_)
                  refine HCC.out.mono ?_
                  rintro e W7 ⟨hb7, vq, rfl, hrq⟩
                  rw [HK1.out] at hrq ⊢
                  obtain ⟨aq, kq, rfl, _, _⟩ := hrq.form
                  have HB7 := Hid.intro' (below_class HBL.out hb7)
                  have HZ := Hid.intro' (JB.new W7 false 0 (.slice none 0 0))
                  have hbz := (Below.refl W7.heap.size W7).alloc (Nat.le_refl _) (.cells #[.bool false, .int .i64 0, .slice none 0 0] 43)
                  have HBZ := Hid.intro' hbz
                  clear hb7 hbz hrq HCC l0 l1 HBR HNL
                  dsimp only [clm0]
                  go_wp2_with (refine wpList_storeJ rfl _ _ rfl W7.heap.size rfl rfl HZ.out ?_)
                  intro W8 hk8 hg8
                  have HB8 := Hid.intro' (below_class HB7.out (hk8.below HBZ.out HBZ.out.size (fun i hi e => by omega)))
                  clear hk8 hg8 HB7 HZ HBZ
                  go_wp2
                  go_roundw
                  case rel => exact ⟨1, by omega, by go_num, HB8⟩
                  case measure => simp [intOf]
                · clear hi hi2
                  have HCC := Hid.intro' (check_any s (fun _ => True) _ _ _ (pf.take (pf.length - 1)) wr (HC5.out.below' HBR.out) (HW5.out.below' HBR.out) (HYC.out.below' HBL.out) (by simp; omega))
                  go_wp2_with (refine wpList_load27g rfl _ rfl w.heap.size s.st _ _ rfl HNL.out ?_)
                  refine HCC.out.mono ?_
                  rintro e W7 ⟨hb7, vq, rfl, hrq⟩
                  rw [HK2.out] at hrq ⊢
                  obtain ⟨aq, kq, rfl, _, _⟩ := hrq.form
                  have HB7 := Hid.intro' (below_class HBL.out hb7)
                  have HZ := Hid.intro' (JB.new W7 false 0 (.slice none 0 0))
                  have hbz := (Below.refl W7.heap.size W7).alloc (Nat.le_refl _) (.cells #[.bool false, .int .i64 0, .slice none 0 0] 43)
                  have HBZ := Hid.intro' hbz
                  clear hb7 hbz hrq HCC l0 l1 HBR HNL
                  dsimp only [clm0]
                  go_wp2_with (refine wpList_storeJ rfl _ _ rfl W7.heap.size rfl rfl HZ.out ?_)
                  intro W8 hk8 hg8
                  have HB8 := Hid.intro' (below_class HB7.out (hk8.below HBZ.out HBZ.out.size (fun i hi e => by omega)))
                  clear hk8 hg8 HB7 HZ HBZ
                  go_wp2
                  go_roundw
                  case rel => exact ⟨2, by omega, by go_num, HB8⟩
                  case measure => simp [intOf]
              · obtain rfl : i = 2 := by omega
                clear hi hi2 l0 l1
                obtain ⟨kk, hkk, hkm⟩ : ∃ k : Nat, k < 65536 ∧ a1 % 65536 = (k : Int) := ⟨(a1 % 65536).toNat, by omega, by omega⟩
                have hk16 := i64_andffff a1
                rw [hkm] at hk16
                have hM0 : 0 < M := HM1.out.1
                have hMp : M ≤ pf.length := HM1.out.2
                have hrm : (kk : Int).tmod (M : Int) = ((kk % M : Nat) : Int) := by rw [Int.tmod_eq_emod_of_nonneg (by omega)]; omega
                obtain ⟨k, hkx⟩ : ∃ c, kk % M = c := ⟨_, rfl⟩
                have hkl : k < M := by rw [← hkx]; exact Nat.mod_lt _ hM0
                rw [hkx] at hrm
                have hMz : ¬ (M : Int) = 0 := by omega
                have hMb : ((M : Int) == 0) = false := by simpa using hMz
                clear hkm hkx
                have hgr := HG5.out.below' HBR.out
                have hba := (Below.refl wr.heap.size wr).alloc (Nat.le_refl _) (.cells #[] 5)
                have c4 : (wr.alloc (.cells #[] 5)).cell? ⟨rb, 4, none⟩ = some (.slice (some ⟨gf, 0, none⟩) pf.length kf) := (hgr.below' hba).cell 4
                have HO0 : Hid (OY (wr.alloc (.cells #[] 5)) wr.heap.size (.slice (some ⟨wr.heap.size, 0, none⟩) 0 0) []) := OY.lit (B := wr.heap.size) wr [] (Nat.le_refl _) (Nat.zero_le _)
                have HYW := Hid.intro' ((HY5.out.below' HBR.out).below' hba)
                have HBW := Hid.intro' hba
                have hSW := hba.size
                clear hgr hba
                go_wp2_with (at_builtin; refine wpList_appYr rfl _ _ rfl wr.heap.size _ _ [] pf (fun _ => True) rfl HO0.out rfl HYW.out (by simp; omega) hSW ?_)
                intro v9 W9 ho9 hg9
                obtain ⟨g9, k9, rfl⟩ := ho9.some (by intro e; have : pf.length = 0 := by rw [show pf = [] by simpa using e]; rfl
                                                     omega)
                change OY W9 wr.heap.size (.slice (some ⟨g9, 0, none⟩) pf.length k9) pf at ho9
                have hb9 : Below wr.heap.size wr W9 := HBW.out.grown hg9 hSW (fun q hq => (HO0.out.lt q hq).1)
                have hg9b := (ho9.lt g9 rfl).1
                have hidx : pf.length - M + k < pf.length := by omega
                obtain ⟨y, hy⟩ : ∃ y, pf[pf.length - M + k]? = some y := ⟨_, List.getElem?_eq_getElem hidx⟩
                have c9 : W9.cell? ⟨g9, pf.length - M + k, none⟩ = some (.int .u8 (y : Int)) := ho9.cell hy
                have f9 : W9.frozen? ⟨g9, pf.length - M + k, none⟩ = false := ho9.fr _
                have c3 : W9.cell? ⟨rb, 3, none⟩ = some (.int .i64 (M : Int)) := ((HG5.out.below' HBR.out).below' hb9).cell 3
                have hw2 : IntKind.i64.wrap ((pf.length : Int) - (M : Int) + (k : Int)) = (pf.length : Int) - (M : Int) + (k : Int) := IntWalk.i64_in _ (by omega)
                have hix : (Instr.indexAt 33 (.slice (some ⟨g9, 0, none⟩) pf.length k9) (.int .i64 ((pf.length : Int) - (M : Int) + (k : Int)))).run Try.prog W9 = .ok (.pointer (some ⟨g9, pf.length - M + k, none⟩)) W9 := by
                  have := ixY W9 (a := some ⟨g9, 0, none⟩) (g := g9) (o := 0) (cap := k9) rfl hidx
                  rwa [show ((pf.length - M + k : Nat) : Int) = (pf.length : Int) - (M : Int) + (k : Int) by omega, Nat.zero_add] at this
                have HO10 := Hid.intro' (ho9.put (pf.length - M + k) m)
                have hb10 := hb9.setCell (p := ⟨g9, pf.length - M + k, none⟩) hg9b (.int .u8 (m : Int))
                have HB10 := Hid.intro' (below_class HBR.out hb10)
                have HBY : Hid (Byt (pf.set (pf.length - M + k) m)) := fun z hz => by
                  rcases List.mem_or_eq_of_mem_set hz with hz | hz
                  · exact HPB.out z hz
                  · omega
                clear ho9 hg9 hb9 hb10 hy HO0 HYW HBW hSW hg9b c4
                obtain ⟨J, HJX⟩ : ∃ j, Hid (pf.length - M + k = j) := ⟨_, Hid.intro' rfl⟩
                have HK4 := Hid.intro' (HK3.out k)
                rw [HJX.out] at c9 f9 hix HO10 HB10 HBY HK4
                have HY10 : Hid (RY (fun _ => True) (W9.setCell ⟨g9, J, none⟩ (.int .u8 (m : Int))) (.slice (some ⟨g9, 0, none⟩) pf.length k9) (pf.set J m)) := HO10.out.ry HBY.out fun _ _ => trivial
                clear HO10 HBY
                generalize hXX : W9.setCell ⟨g9, J, none⟩ (.int .u8 (m : Int)) = X at HY10 HB10
                have HCC := Hid.intro' (check_any s (fun _ => True) _ _ _ (pf.set J m) X (HC5.out.below' HB10.out) (HW5.out.below' HB10.out) HY10.out (by simp; omega))
                have HNX := Hid.intro' (HN5.out.below' HB10.out)
                have HLX := Hid.intro' (HL5.out.below' HB10.out)
                have HGX := Hid.intro' (HG5.out.below' HB10.out)
                go_wp2_with (refine wpList_load27g rfl _ rfl w.heap.size s.st _ _ rfl HNX.out ?_)
                clear c9 f9 hix c3 hk16 hrm hw2 hMz hMb hXX
                refine HCC.out.mono ?_
                rintro e W11 ⟨hb11, vq, rfl, hrq⟩
                have HB11 := Hid.intro' (below_class (below_class HB5.out HB10.out) hb11)
                have HL11 := Hid.intro' (HLX.out.below' hb11)
                have HG11 := Hid.intro' (HGX.out.below' hb11)
                have HZ := Hid.intro' (JB.new W11 false 0 (.slice none 0 0))
                have HBZ := Hid.intro' ((Below.refl W11.heap.size W11).alloc (Nat.le_refl _) (.cells #[.bool false, .int .i64 0, .slice none 0 0] 43))
                clear hb11 HCC HNX HLX HGX HY10 HB10
                rcases HK4.out with h10 | h0
                · rw [h10] at hrq ⊢
                  obtain ⟨aq, kq, rfl, _, _⟩ := hrq.form
                  dsimp only [clm0]
                  clear hrq h10
                  go_wp2_with (refine wpList_storeJ rfl _ _ rfl W11.heap.size rfl rfl HZ.out ?_)
                  intro W12 hk12 hg12
                  have HB12 := Hid.intro' (below_class HB11.out (hk12.below HBZ.out HBZ.out.size (fun i hi e => by omega)))
                  clear hk12 hg12 HB11 HZ HBZ
                  go_wp2
                  go_ret
                  exact ⟨rfl, HB12.out⟩
                · rw [h0] at hrq ⊢
                  obtain ⟨aq, kq, rfl, _, _⟩ := hrq.form
                  dsimp only at hrq ⊢
                  have HQ11 : Hid (RL (fun _ => True) W11 (.slice aq x.plan.length kq) x.plan) := hrq.mono fun _ _ _ _ => trivial
                  clear hrq h0
                  go_wp2_with (refine wpList_storeJ rfl _ _ rfl W11.heap.size rfl rfl HZ.out ?_)
                  intro W12 hk12 hg12
                  have hb12 := hk12.below HBZ.out HBZ.out.size (fun i hi e => by omega)
                  have HB12 := Hid.intro' (below_class HB11.out hb12)
                  have hG12 := HG11.out.below' hb12
                  have HSM := Hid.intro' (psame_any _ _ _ _ x.plan W12 (HQ11.out.below' hb12) (HL11.out.below' hb12) (by have := HBD.out.2.1; omega) (fun l hl => by have := (HBD.out.2.2.1 l hl).1; omega))
                  generalize W11.heap.size = cb at hg12 ⊢
                  have j0 : W12.cell? ⟨cb, 0, none⟩ = some (.bool true) := hg12.cell 0
                  have j1 : W12.cell? ⟨cb, 1, none⟩ = some (.int .i64 x.cost) := hg12.cell 1
                  have j2 : W12.cell? ⟨cb, 2, none⟩ = some (.slice aq x.plan.length kq) := hg12.cell 2
                  have r0 : W12.cell? ⟨rb, 0, none⟩ = some (.slice ar x.plan.length kr) := hG12.cell 0
                  have r1 : W12.cell? ⟨rb, 1, none⟩ = some (.int .i64 x.cost) := hG12.cell 1
                  clear hk12 hg12 hb12 hG12 HB11 HL11 HG11 HQ11 HZ HBZ
                  go_wp2_with fail
                  refine HSM.out.mono ?_
                  rintro e W13 ⟨rfl, hb13⟩
                  have HB13 := Hid.intro' (below_class HB12.out hb13)
                  clear hb13 HSM HB12
                  go_wp2
                  go_ret
                  exact ⟨rfl, HB13.out⟩
end Go.Proofs.Ytagmidolcdefiah
