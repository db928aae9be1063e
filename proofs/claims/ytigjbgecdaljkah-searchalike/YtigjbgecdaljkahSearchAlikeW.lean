/- SearchAlike. -/
import Derived.Test.YtigjbgecdaljkahPk40
import Derived.Test.YtigjbgecdaljkahPk13
namespace Go.Proofs.Ytigjbgecdaljkah
open Go.RowKit Go.Shelf

theorem NB.puta {W : World} {b : Nat} {s : St} {vc vw : Value} (h : NB W b s vc vw) (n : Int) : NB (W.setCell ⟨b, 1, none⟩ (.int .i64 n)) b { s with ca := n } vc vw := by
  have := heap_setCell_same W b 1 _ 27 (.int .i64 n) h
  exact this
/-- what is found within all nodes -/
theorem fnd_all {s : Sn} (hr : rgt s = true) (h4 : s.ws.length ≤ 4) : (fnd s 1000000).ended = false ∧ Best s (fnd s 1000000).cost := by
  have h8 : s.cs.length ≤ 8 := by have := (nd0_ok hr).nb.bs.p8; have := (nd0_ok hr).nb.bs.pc; omega
  have he := fnd_ends hr h4 h8
  exact ⟨he, fnd_best hr he⟩
set_option maxRecDepth 100000 in
set_option maxHeartbeats 4000000 in
theorem SearchAlike_any (s : Sn) (D : Nat → Prop) (vc vw : Value) (a1 : Int) (w : World) (hc : R2 D w vc s.cs) (hw : R2 D w vw s.ws) :
    Calls Try.prog 3 #[.agg (nv s.st vc vw).toArray, .int .i64 a1] w fun e w' => e = .returned (.bool true) ∧ Below w.heap.size w w' := by
  have hbx := (Below.refl w.heap.size w).alloc (Nat.le_refl _) (.cells (nv s.st vc vw).toArray 27)
  have HN := Hid.intro' (NB.new w s.st vc vw)
  have HB := Hid.intro' hbx
  have HC := Hid.intro' ((hc.mono (D' := fun g => g < w.heap.size) fun _ _ h _ => h).below' hbx)
  have HW := Hid.intro' ((hw.mono (D' := fun g => g < w.heap.size) fun _ _ h _ => h).below' hbx)
  obtain ⟨ac, kc, rfl, _, _⟩ := hc.form
  obtain ⟨aw, kw, rfl, _, _⟩ := hw.form
  clear hc hw hbx
  go_enter Try.func3, Try.ntmps3
  go_wp2_with fail
  refine (speaks12_any _).mono ?_
  rintro e W1 ⟨rfl, hb1⟩
  have HB1 := Hid.intro' (below_class HB.out hb1)
  have HN1 := Hid.intro' (HN.out.below' hb1)
  have HC1 := Hid.intro' (HC.out.below' hb1)
  have HW1 := Hid.intro' (HW.out.below' hb1)
  clear hb1 HN HB HC HW
  go_wp2_with (refine wpList_load27g rfl _ rfl w.heap.size s.st _ _ rfl HN1.out ?_)
  refine (great_any s _ _ _ _ [] W1 HC1.out HW1.out (RL.nil _ _)).mono ?_
  rintro e W2 ⟨⟨g, rfl, hb2, hs⟩⟩
  have HB2 := Hid.intro' (below_class HB1.out hb2)
  have HN2 := Hid.intro' (HN1.out.below' hb2)
  have HC2 := Hid.intro' (HC1.out.below' hb2)
  have HW2 := Hid.intro' (HW1.out.below' hb2)
  have c14 : W2.cell? ⟨w.heap.size, 14, none⟩ = some (.slice aw s.ws.length kw) := HN2.out.cell 14
  clear hb2 hs HN1 HB1 HC1 HW1
  cases g with
  | true =>
    go_wp2
    go_ret
    exact ⟨rfl, HB2.out⟩
  | false =>
    go_wp2_with (refine wpList_load27g (by go_simp) _ rfl w.heap.size s.st _ _ rfl HN2.out ?_)
    refine (rsnapRight_any s _ _ _ W2 HC2.out HW2.out).mono ?_
    rintro e W3 ⟨rfl, hb3⟩
    have HB3 := Hid.intro' (below_class HB2.out hb3)
    have HN3 := Hid.intro' (HN2.out.below' hb3)
    have HC3 := Hid.intro' (HC2.out.below' hb3)
    have HW3 := Hid.intro' (HW2.out.below' hb3)
    clear c14
    have c14 : W3.cell? ⟨w.heap.size, 14, none⟩ = some (.slice aw s.ws.length kw) := HN3.out.cell 14
    clear hb3 HN2 HB2 HC2 HW2
    cases hr : rgt s with
    | false =>
      go_wp2
      go_ret
      exact ⟨rfl, HB3.out⟩
    | true =>
      have HR := Hid.intro' hr
      clear hr
      by_cases h4 : 4 < s.ws.length
      · have h4z : (4 : Int) < (s.ws.length : Int) := by omega
        go_wp2
        go_ret
        exact ⟨rfl, HB3.out⟩
      · have h4z : decide ((4 : Int) < (s.ws.length : Int)) = false := decide_eq_false (by omega)
        by_cases h0 : s.ws.length = 0
        · have h0z : (s.ws.length : Int) = 0 := by omega
          go_wp2
          go_ret
          exact ⟨rfl, HB3.out⟩
        · have h0z : ((s.ws.length : Int) == 0) = false := by rw [beq_eq_false_iff_ne]; omega
          have h0e : ¬ s.ws = [] := fun e => by rw [e] at h0; simp at h0
          obtain ⟨kk, hkk, hkm⟩ : ∃ k : Nat, k < 65536 ∧ a1 % 65536 = (k : Int) := ⟨(a1 % 65536).toNat, by omega, by omega⟩
          have hk16 := i64_andffff a1
          rw [hkm] at hk16
          have hrm : (kk : Int).tmod (s.ws.length : Int) = ((kk % s.ws.length : Nat) : Int) := by rw [Int.tmod_eq_emod_of_nonneg (by omega)]; omega
          obtain ⟨k, hkx⟩ : ∃ c, kk % s.ws.length = c := ⟨_, rfl⟩
          have hkl : k < s.ws.length := by rw [← hkx]; exact Nat.mod_lt _ (by omega)
          rw [hkx] at hrm
          clear hkm hkx
          have HZ : Hid ((W3.alloc (.cells #[.int .i64 0, .int .i64 0, .int .i64 0, .int .i64 0, .int .i64 0, .int .i64 0, .int .i64 0, .int .i64 0, .int .i64 0, .int .i64 0, .int .i64 0, .int .i64 0, .int .i64 0, .slice none 0 0, .slice none 0 0] 27)).heap[W3.heap.size]? = some (.cells #[.int .i64 0, .int .i64 0, .int .i64 0, .int .i64 0, .int .i64 0, .int .i64 0, .int .i64 0, .int .i64 0, .int .i64 0, .int .i64 0, .int .i64 0, .int .i64 0, .int .i64 0, .slice none 0 0, .slice none 0 0] 27)) := World.alloc_heap_new W3 _
          have hbA := (Below.refl W3.heap.size W3).alloc (Nat.le_refl _) (.cells #[.int .i64 0, .int .i64 0, .int .i64 0, .int .i64 0, .int .i64 0, .int .i64 0, .int .i64 0, .int .i64 0, .int .i64 0, .int .i64 0, .int .i64 0, .int .i64 0, .int .i64 0, .slice none 0 0, .slice none 0 0] 27)
          go_wp2_with (first | refine wpList_load27g rfl _ rfl w.heap.size s.st _ _ rfl HN3.out ?_ | refine wpList_store27 rfl _ _ rfl W3.heap.size _ rfl rfl rfl rfl HZ.out rfl ?_)
          intro W4 hk4 hn4
          have hb4 : Below W3.heap.size W3 W4 := hk4.below hbA (by simp) (fun i hi => by omega)
          have HT4 := Hid.intro' hn4
          have HB4 := Hid.intro' (below_class HB3.out hb4)
          have HN4 := Hid.intro' (HN3.out.below' hb4)
          have HC4 := Hid.intro' (HC3.out.below' hb4)
          have HW4 := Hid.intro' (HW3.out.below' hb4)
          have HBS := Hid.intro' (show w.heap.size < W3.heap.size from HN3.out.lt)
          clear c14
          have c14 : W4.cell? ⟨w.heap.size, 14, none⟩ = some (.slice aw s.ws.length kw) := HN4.out.cell 14
          clear hk4 hn4 hb4 hbA HZ HN3 HB3 HC3 HW3
          generalize W3.heap.size = bt at HT4 HBS ⊢
          have HDR : Hid (∀ w', Below W4.drew.heap.size W4.drew w' → Below W4.heap.size W4 w') := fun w' hw => ((Below.refl _ W4).drew).trans hw
          have HC14 : Hid (∀ w', Below W4.drew.heap.size W4.drew w' → w'.cell? ⟨w.heap.size, 14, none⟩ = some (.slice aw s.ws.length kw)) := fun w' hw => (HN4.out.below' (HDR.out w' hw)).cell 14
          have hkn : k ≤ s.ws.length := by omega
          have hkc : k ≤ kw := by obtain ⟨_, _, e, h1, _⟩ := HW4.out; cases e; omega
          go_wp2_with fail
          clear c14 hrm hk16
          refine wp_region_rows 11 [0, 5, 10] [(5, 0), (10, 5)] (fun j v w => O2 45 w W4.drew.heap.size v (if j = 0 then [] else if j = 5 then s.ws.drop k else s.ws.drop k ++ s.ws.take k)) (by kernel_rfl) (by kernel_rfl) (rows2_ok _ _ _) ?_
          conv => arg 5; simp [calmL]
          unfold wpCalm
          generalize hK : wpCalm Try.prog _ _ _ _ = K
          unfold Oper.calm
          go_simp
          refine ⟨_, fun _ _ => rfl, ?_⟩
          subst hK
          unfold wpCalm
          generalize hK : wpCalm Try.prog _ _ _ _ = K
          rw [if_pos (by go_simp)]
          refine calm_loadLW _ _ _ rfl rfl HC14.out ?_
          go_simp
          subst hK
          unfold wpCalm
          generalize hK : wpCalm Try.prog _ _ _ _ = K
          unfold Oper.calm
          go_simp
          refine ⟨_, fun _ _ => rfl, ?_⟩
          subst hK
          unfold wpCalm
          generalize hK : wpCalm Try.prog _ _ _ _ = K
          rw [if_pos (by go_simp)]
          refine calm_restW _ _ rfl rfl rfl hkn ?_
          go_simp
          subst hK
          unfold wpCalm
          generalize hK : wpCalm Try.prog _ _ _ _ = K
          unfold Oper.calm
          go_simp
          refine ⟨_, fun _ _ => rfl, ?_⟩
          subst hK
          unfold wpCalm
          generalize hK : wpCalm Try.prog _ _ _ _ = K
          rw [if_pos (by go_simp)]
          refine calm_loadLW _ _ _ rfl rfl HC14.out ?_
          go_simp
          subst hK
          unfold wpCalm
          generalize hK : wpCalm Try.prog _ _ _ _ = K
          unfold Oper.calm
          go_simp
          refine ⟨_, fun _ _ => rfl, ?_⟩
          subst hK
          unfold wpCalm
          generalize hK : wpCalm Try.prog _ _ _ _ = K
          rw [if_pos (by go_simp)]
          refine calm_cutW _ _ rfl rfl rfl hkc ?_
          go_simp
          subst hK
          refine wpCalm_nil ⟨?_, ?_⟩
          · intro i o hi ho ρ w' hb h1 h2
            simp only [List.mem_cons, List.not_mem_nil, or_false] at hi
            rcases hi with rfl | rfl | rfl
            · cases ho
              refine RowDo.lit rfl 0 (.cells #[] 45) ?_ (O2.nil (B := W4.drew.heap.size) w' hb.size)
              simp only [rwv, pl, List.foldl, dstOf]
              go_simp
            · cases ho
              exact RowDo.app2 45 25 Try.underlying25 infoW rfl (.tmp 41) (.tmp 45) rfl _ (ρ 0) (.slice (rest2 aw kw k) (s.ws.length - k) (kw - k)) [] (s.ws.drop k) _ (by rfl) (h1 0 (by simp) (by kernel_rfl)) (by rfl) ((HW4.out.below' (HDR.out w' hb)).rest hkn) (by simp; omega) hb.size
            · cases ho
              exact RowDo.app2 45 25 Try.underlying25 infoW rfl (.tmp 46) (.tmp 50) rfl _ (ρ 5) (.slice aw k kw) (s.ws.drop k) (s.ws.take k) _ (by rfl) (h1 5 (by simp) (by kernel_rfl)) (by rfl) ((HW4.out.below' (HDR.out w' hb)).cut hkn) (by simp; omega) hb.size
          · intro ρ w' hb hlive
            have ho : O2 45 w' W4.drew.heap.size (ρ 10) (s.ws.drop k ++ s.ws.take k) := hlive 10 (by simp) (by rfl)
            simp only [rwv, pl, List.foldl, dstOf]
            generalize ρ 0 = v0
            generalize ρ 5 = v5
            generalize ρ 10 = v9 at ho ⊢
            have hlen : (s.ws.drop k ++ s.ws.take k).length = s.ws.length := by simp; omega
            obtain ⟨gn, kn, rfl, hgn⟩ := ho.some (by rw [hlen]; omega)
            rw [hlen] at ho ⊢
            have hb5 := HDR.out w' hb
            have HT5 := Hid.intro' (HT4.out.below' hb5)
            have t14 : w'.cell? ⟨bt, 14, none⟩ = some (.slice aw s.ws.length kw) := HT5.out.cell 14
            have f14 := HT5.out.fr 14
            have HBT := Hid.intro' HT4.out.lt
            have h3 : W4.drew.heap.size = W4.heap.size := rfl
            have HT6 := Hid.intro' (HT5.out.putw (.slice (some ⟨gn, 0, none⟩) s.ws.length kn))
            have HO6 : Hid (O2 45 (w'.setCell ⟨bt, 14, none⟩ (.slice (some ⟨gn, 0, none⟩) s.ws.length kn)) W4.heap.size (.slice (some ⟨gn, 0, none⟩) s.ws.length kn) (s.ws.drop k ++ s.ws.take k)) := ho.keep fun g hg => Below.heap_setCell _ _ _ _ (by have h1 := (ho.lt g hg).1; have := HBT.out; show g ≠ bt; omega)
            have HK6 : Hid (Kp (fun k => k = bt) W4 (w'.setCell ⟨bt, 14, none⟩ (.slice (some ⟨gn, 0, none⟩) s.ws.length kn))) := (Kp.ofBelow (fun k => k = bt) hb5).set bt 14 _ (fun _ => rfl)
            obtain ⟨X6, hX⟩ : ∃ X, w'.setCell ⟨bt, 14, none⟩ (.slice (some ⟨gn, 0, none⟩) s.ws.length kn) = X := ⟨_, rfl⟩
            rw [hX] at HT6 HO6 HK6
            have HN6 := Hid.intro' (HN4.out.kp HK6.out (by have := HBS.out; omega))
            have HC6 := Hid.intro' (HC4.out.keep HK6.out.size fun g hg hlt => HK6.out.block g hlt (by have := HBS.out; omega))
            have HW6 := Hid.intro' (HW4.out.keep HK6.out.size fun g hg hlt => HK6.out.block g hlt (by have := HBS.out; omega))
            have HB6 := Hid.intro' (HK6.out.below HB4.out HB4.out.size (fun i hi => by have := HBS.out; omega))
            have HR6 := Hid.intro' (HO6.out.r2 (D := fun _ => True) fun _ _ => trivial)
            have HBX : Hid (bt < X6.heap.size) := HT6.out.lt
            have HA1 := Hid.intro' (fnd_all HR.out (by omega))
            have hrn := rn_turn hkl
            have HA2 := Hid.intro' (fnd_all (s := ⟨s.st, s.cs, s.ws.drop k ++ s.ws.take k⟩) (ren_rgt hrn HR.out) (by show (s.ws.drop k ++ s.ws.take k).length ≤ 4; omega))
            have HEQ : Hid ((fnd ⟨s.st, s.cs, s.ws.drop k ++ s.ws.take k⟩ 1000000).cost = (fnd s 1000000).cost) := HA2.out.2.one (Best.ren hrn HA1.out.2)
            have hf1 : Calls Try.prog 7 #[.agg (nv s.st (.slice ac s.cs.length kc) (.slice aw s.ws.length kw)).toArray, .int .i64 1000000] X6 _ := find_yes (s := s) (B := 1000000) HC6.out HW6.out HR.out (by omega) (by omega)
            rw [HA1.out.1] at hf1
            have HF1 := Hid.intro' hf1
            have HRT : Hid (rgt ⟨s.st, s.cs, s.ws.drop k ++ s.ws.take k⟩ = true) := ren_rgt hrn HR.out
            clear ho hlen hb5 hb h3 HT5 HK6 HO6 HBT HT4 HN4 HC4 HW4 HB4 HDR HC14 hlive hf1 hrn
            go_wp2_with (refine wpList_load27g rfl _ rfl w.heap.size s.st _ _ rfl HN6.out ?_)
            clear t14 f14 hX
            refine HF1.out.mono ?_
            rintro e W7 ⟨vp, vf, rfl, hrl, hoy, hb7⟩
            obtain ⟨ap, kp, rfl, _, _⟩ := hrl.form
            obtain ⟨af, kf, rfl⟩ := hoy.slice
            have hbz := (Below.refl W7.heap.size W7).alloc (Nat.le_refl _) (.cells #[.slice none 0 0, .int .i64 0, .bool false, .int .i64 0, .slice none 0 0] 35)
            have HZ := Hid.intro' (GB.new W7 (.slice none 0 0) 0 false 0 (.slice none 0 0))
            clear hrl hoy HF1
            go_wp2_with (refine wpList_storeG rfl _ _ rfl W7.heap.size rfl rfl HZ.out ?_)
            intro W8 hk8 hg8
            have hb78 : Below X6.heap.size X6 W8 := below_class hb7 (hk8.below hbz (by simp) (fun i hi e => by omega))
            have HG8 := Hid.intro' hg8
            have HN8 := Hid.intro' (HN6.out.below' hb78)
            have HT8 := Hid.intro' (HT6.out.below' hb78)
            have HC8 := Hid.intro' (HC6.out.below' hb78)
            have HW8 := Hid.intro' (HW6.out.below' hb78)
            have HR8 := Hid.intro' (HR6.out.below' hb78)
            have HB8 := Hid.intro' (below_class HB6.out hb78)
            have HRA : Hid (bt < W7.heap.size) := Nat.lt_of_lt_of_le HBX.out hb7.size
            clear hb7 hk8 hg8 hb78 hbz HZ HN6 HT6 HC6 HW6 HR6 HB6 HBX
            generalize W7.heap.size = ra at HG8 HRA ⊢
            have hf2 : Calls Try.prog 7 #[.agg (nv s.st (.slice ac s.cs.length kc) (.slice (some ⟨gn, 0, none⟩) s.ws.length kn)).toArray, .int .i64 1000000] W8 _ := find_yes (s := ⟨s.st, s.cs, s.ws.drop k ++ s.ws.take k⟩) (B := 1000000) (HC8.out.mono (D' := fun _ => True) fun _ _ _ _ => trivial) HR8.out HRT.out (by omega) (by omega)
            rw [HA2.out.1, HEQ.out] at hf2
            have HF2 := Hid.intro' hf2
            clear hf2
            generalize fnd ⟨s.st, s.cs, s.ws.drop k ++ s.ws.take k⟩ 1000000 = x2 at HF2 HA2 HEQ
            go_wp2_with (refine wpList_load27g rfl _ rfl bt s.st _ _ rfl HT8.out ?_)
            refine HF2.out.mono ?_
            rintro e W9 ⟨vq, vg, rfl, hrq, hoq, hb9⟩
            obtain ⟨aq, kq, rfl, _, _⟩ := hrq.form
            obtain ⟨ag, kg, rfl⟩ := hoq.slice
            have hbz := (Below.refl W9.heap.size W9).alloc (Nat.le_refl _) (.cells #[.slice none 0 0, .int .i64 0, .bool false, .int .i64 0, .slice none 0 0] 35)
            have HZ := Hid.intro' (GB.new W9 (.slice none 0 0) 0 false 0 (.slice none 0 0))
            clear hrq hoq HF2 HRT
            go_wp2_with (refine wpList_storeG rfl _ _ rfl W9.heap.size rfl rfl HZ.out ?_)
            intro W10 hk10 hg10
            have hb910 : Below W8.heap.size W8 W10 := below_class hb9 (hk10.below hbz (by simp) (fun i hi e => by omega))
            have HGA := Hid.intro' (HG8.out.below' hb910)
            have HGQ := Hid.intro' hg10
            have HN10 := Hid.intro' (HN8.out.below' hb910)
            have HT10 := Hid.intro' (HT8.out.below' hb910)
            have HC10 := Hid.intro' (HC8.out.below' hb910)
            have HW10 := Hid.intro' (HW8.out.below' hb910)
            have HB10 := Hid.intro' (below_class HB8.out hb910)
            clear hb9 hk10 hg10 hb910 hbz HZ HG8 HN8 HT8 HC8 HW8 HB8 HR8 HA2 HEQ
            generalize W9.heap.size = rb at HGQ ⊢
            have HB1 := Hid.intro' HA1.out.2
            clear HA1
            generalize fnd s 1000000 = x1 at HGA HGQ HB1 ⊢
            obtain ⟨co, HCO⟩ : ∃ c : Int, Hid (x1.cost = c) := ⟨_, Hid.intro' rfl⟩
            rw [HCO.out] at HGA HGQ HB1 ⊢
            have p1 : W10.cell? ⟨ra, 1, none⟩ = some (.int .i64 co) := HGA.out.cell 1
            have p2 : W10.cell? ⟨ra, 2, none⟩ = some (.bool true) := HGA.out.cell 2
            have q1 : W10.cell? ⟨rb, 1, none⟩ = some (.int .i64 co) := HGQ.out.cell 1
            have q2 : W10.cell? ⟨rb, 2, none⟩ = some (.bool true) := HGQ.out.cell 2
            have n1 : W10.cell? ⟨w.heap.size, 1, none⟩ = some (.int .i64 s.st.ca) := HN10.out.cell 1
            obtain ⟨ca, HCA⟩ : ∃ c : Int, Hid (s.st.ca = c) := ⟨_, Hid.intro' rfl⟩
            rw [HCA.out] at n1
            by_cases h8 : ca = 8
            · subst h8
              go_wp2
              go_ret
              exact ⟨rfl, HB10.out⟩
            · have h8z : (ca == 8) = false := by rw [beq_eq_false_iff_ne]; exact h8
              go_wp2_with (first | refine wpList_load27g rfl _ rfl w.heap.size s.st _ _ rfl HN10.out ?_ | refine wpList_store27 rfl _ _ rfl bt _ rfl rfl rfl rfl HT10.out rfl ?_)
              intro W11 hk11 hn11
              have hbs := HBS.out
              have hra := HRA.out
              have HT11 := Hid.intro' hn11
              have hk12 : Kp (fun k => k = bt) W10 (W11.setCell ⟨bt, 1, none⟩ (.int .i64 (ca + 1))) := hk11.set bt 1 _ (fun _ => rfl)
              have HT12 := Hid.intro' (HT11.out.puta (ca + 1))
              have HN12 := Hid.intro' (HN10.out.kp hk12 (by omega))
              have HC12 := Hid.intro' (HC10.out.keep hk12.size fun g hg hlt => hk12.block g hlt (by omega))
              have HW12 := Hid.intro' (HW10.out.keep hk12.size fun g hg hlt => hk12.block g hlt (by omega))
              have HG12 := Hid.intro' (HGA.out.kp hk12 (by omega))
              have HB12 := Hid.intro' (hk12.below HB10.out HB10.out.size (fun i hi e => by omega))
              have t1 : W11.cell? ⟨bt, 1, none⟩ = some (.int .i64 s.st.ca) := HT11.out.cell 1
              rw [HCA.out] at t1
              have f1 := HT11.out.fr 1
              obtain ⟨nc, hrs⟩ := rgt_rs HR.out
              have HCL : Hid (s.cs.length ≤ 8) := by have h1 := hrs.cl; have h2 := hrs.n8; show _ ≤ _; omega
              have hwc : IntKind.i64.wrap (ca + 1) = ca + 1 := IntWalk.i64_in _ (by have h1 := hrs.ca; have h2 := hrs.n8; have h3 := HCA.out; omega)
              obtain ⟨W12, hX⟩ : ∃ X, W11.setCell ⟨bt, 1, none⟩ (.int .i64 (ca + 1)) = X := ⟨_, rfl⟩
              rw [hX] at HT12 HN12 HC12 HW12 HG12 HB12
              have HO : Hid (O2 40 (W12.alloc (.cells #[] 40)) W12.heap.size (.slice (some ⟨W12.heap.size, 0, none⟩) 0 0) []) := O2.nil W12 (Nat.le_refl _)
              have c13 : (W12.alloc (.cells #[] 40)).cell? ⟨w.heap.size, 13, none⟩ = some (.slice ac s.cs.length kc) := (HN12.out.alloc _).cell 13
              have HCA2 := Hid.intro' (HC12.out.alloc (.cells #[] 40))
              clear hk11 hk12 hn11 HT11 HN10 HC10 HW10 HB10 HGA HGQ HT10 p1 p2 q1 q2 n1 hrs
              go_wp2_with (at_builtin; refine wpList_append2 40 24 Try.underlying24 infoR rfl _ _ rfl W12.heap.size _ _ [] s.cs _ rfl HO.out rfl HCA2.out ?qa3 ?qa4 ?_)
              case qa3 => have := HCL.out; simp; omega
              case qa4 => simp
              intro v13 W13 ho13 hg13
              have hb13 : Below W12.heap.size W12 W13 := ((Below.refl _ W12).alloc (Nat.le_refl _) (.cells #[] 40)).grown hg13 (by simp) (fun q hq => by have := own_some hq; omega)
              have HO13 : Hid (O2 40 W13 W12.heap.size v13 s.cs) := ho13
              have HB13 := Hid.intro' hb13
              have HO14 := Hid.intro' (HO13.out.below' ((Below.refl W13.heap.size W13).alloc (Nat.le_refl _) (.cells #[.int .i64 0, .int .i64 0] 40)))
              have HX14 : Hid (R2 (fun _ => True) (W13.alloc (.cells #[.int .i64 0, .int .i64 0] 40)) (.slice (some ⟨W13.heap.size, 0, none⟩) 1 1) [(0, 0)]) := (o2_one (B := W13.heap.size) W13 0 0 (Nat.le_refl _)).r2 fun _ _ => trivial
              clear ho13 hg13 hb13 HO c13 HCA2 hX t1 f1 hwc
              go_wp2_with (at_builtin; refine wpList_append2 40 24 Try.underlying24 infoR rfl _ _ rfl W12.heap.size _ _ s.cs [(0, 0)] _ rfl HO14.out rfl HX14.out ?qb3 ?qb4 ?_)
              case qb3 => have := HCL.out; simp; omega
              case qb4 => have := HB13.out.size; simp; omega
              intro v15 W15 ho15 hg15
              have hb15 : Below W12.heap.size W12 W15 := (HB13.out.alloc HB13.out.size (.cells #[.int .i64 0, .int .i64 0] 40)).grown hg15 (by have := HB13.out.size; simp; omega) (fun q hq => (HO13.out.lt q hq).1)
              have hlen : (s.cs ++ [((0 : Int), (0 : Int))]).length = s.cs.length + 1 := by simp
              obtain ⟨gm, km, rfl, hgm⟩ := ho15.some (by rw [hlen]; omega)
              rw [hlen] at ho15 ⊢
              have HT15 := Hid.intro' (HT12.out.below' hb15)
              have HBT := Hid.intro' HT12.out.lt
              have t13 : W15.cell? ⟨bt, 13, none⟩ = some (.slice ac s.cs.length kc) := HT15.out.cell 13
              have f13 := HT15.out.fr 13
              have hk16 : Kp (fun k => k = bt) W12 (W15.setCell ⟨bt, 13, none⟩ (.slice (some ⟨gm, 0, none⟩) (s.cs.length + 1) km)) := (Kp.ofBelow (fun k => k = bt) hb15).set bt 13 _ (fun _ => rfl)
              have HT16 := Hid.intro' (HT15.out.putc (.slice (some ⟨gm, 0, none⟩) (s.cs.length + 1) km))
              have HC16 : Hid (R2 (fun _ => True) (W15.setCell ⟨bt, 13, none⟩ (.slice (some ⟨gm, 0, none⟩) (s.cs.length + 1) km)) (.slice (some ⟨gm, 0, none⟩) (s.cs.length + 1) km) (s.cs ++ [(0, 0)])) := O2.r2 (ho15.keep fun g hg => Below.heap_setCell _ _ _ _ (by have h1 := (ho15.lt g hg).1; have := HBT.out; show g ≠ bt; omega)) fun _ _ => trivial
              have HW16 := Hid.intro' ((HW12.out.keep hk16.size fun g hg hlt => hk16.block g hlt (by omega)).mono (D' := fun _ => True) fun _ _ _ _ => trivial)
              have HG16 := Hid.intro' (HG12.out.kp hk16 (by omega))
              have HB16 := Hid.intro' (hk16.below HB12.out HB12.out.size (fun i hi e => by omega))
              obtain ⟨W16, hX⟩ : ∃ X, W15.setCell ⟨bt, 13, none⟩ (.slice (some ⟨gm, 0, none⟩) (s.cs.length + 1) km) = X := ⟨_, rfl⟩
              rw [hX] at HT16 HC16 HW16 HG16 HB16
              have hn8 : s.st.ca ≠ 8 := by rw [HCA.out]; exact h8
              have HRT := Hid.intro' (more_rgt HR.out hn8)
              have HA3 := Hid.intro' (fnd_all (s := mcar s) HRT.out (by show s.ws.length ≤ 4; omega))
              have HE3 : Hid ((fnd (mcar s) 1000000).cost = co) := HA3.out.2.one (Best.more HR.out hn8 HB1.out)
              have hf3 : Calls Try.prog 7 #[.agg (nv { s.st with ca := s.st.ca + 1 } (.slice (some ⟨gm, 0, none⟩) (s.cs.length + 1) km) (.slice aw s.ws.length kw)).toArray, .int .i64 1000000] W16 _ := find_yes (s := mcar s) (B := 1000000) HC16.out HW16.out HRT.out (by omega) (by omega)
              rw [HA3.out.1, HE3.out, HCA.out] at hf3
              have HF3 := Hid.intro' hf3
              clear hf3 ho15 hg15 hb15 hlen hk16 hn8 HT12 HN12 HC12 HW12 HG12 HB12 HB13 HO13 HO14 HX14 HT15 HB1
              generalize fnd (mcar s) 1000000 = x3 at HF3 HA3 HE3
              go_wp2_with (refine wpList_load27g rfl _ rfl bt { s.st with ca := ca + 1 } _ _ rfl HT16.out ?_)
              clear t13 f13 hX
              refine HF3.out.mono ?_
              rintro e W17 ⟨vr, vh, rfl, hrr, hor, hb17⟩
              obtain ⟨ar, kr, rfl, _, _⟩ := hrr.form
              obtain ⟨ah, kh, rfl⟩ := hor.slice
              have hbz := (Below.refl W17.heap.size W17).alloc (Nat.le_refl _) (.cells #[.slice none 0 0, .int .i64 0, .bool false, .int .i64 0, .slice none 0 0] 35)
              have HZ := Hid.intro' (GB.new W17 (.slice none 0 0) 0 false 0 (.slice none 0 0))
              clear hrr hor HF3 HRT HA3 HE3
              go_wp2_with (refine wpList_storeG rfl _ _ rfl W17.heap.size rfl rfl HZ.out ?_)
              intro W18 hk18 hg18
              have hb18 : Below W16.heap.size W16 W18 := below_class hb17 (hk18.below hbz (by simp) (fun i hi e => by omega))
              have HB18 := Hid.intro' (below_class HB16.out hb18)
              have hga := HG16.out.below' hb18
              have p1 : W18.cell? ⟨ra, 1, none⟩ = some (.int .i64 co) := hga.cell 1
              generalize W17.heap.size = rc at hg18 ⊢
              have q1 : W18.cell? ⟨rc, 1, none⟩ = some (.int .i64 co) := hg18.cell 1
              have q2 : W18.cell? ⟨rc, 2, none⟩ = some (.bool true) := hg18.cell 2
              clear hk18 hb18 hb17 hbz hga hg18 HZ HG16 HB16 HC16 HW16 HT16
              go_wp2
              go_ret
              exact ⟨rfl, HB18.out⟩

end Go.Proofs.Ytigjbgecdaljkah
