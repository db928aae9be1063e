/- SearchBest. -/
import Derived.Test.YtigjbgecdaljkagSlB
import Derived.Test.YtigjbgecdaljkagSrC
import Derived.Test.YtigjbgecdaljkagPk12
import Derived.Test.YtigjbgecdaljkagPk10
namespace Go.Proofs.Ytigjbgecdaljkag
open Go.RowKit Go.Shelf

set_option maxRecDepth 100000 in
set_option maxHeartbeats 4000000 in
theorem SearchBest_any (s : Sn) (D : Nat → Prop) (vc vw : Value) (a1 : Int) (w : World) (hc : R2 D w vc s.cs) (hw : R2 D w vw s.ws) :
    Calls Try.prog 7 #[.agg (nv s.st vc vw).toArray, .int .i64 a1] w fun e w' => e = .returned (.bool true) ∧ Below w.heap.size w w' := by
  have hbx := (Below.refl w.heap.size w).alloc (Nat.le_refl _) (.cells (nv s.st vc vw).toArray 27)
  have HN := Hid.intro' (NB.new w s.st vc vw)
  have HB := Hid.intro' hbx
  have HC := Hid.intro' ((hc.mono (D' := fun _ => True) fun _ _ _ _ => trivial).below' hbx)
  have HW := Hid.intro' ((hw.mono (D' := fun _ => True) fun _ _ _ _ => trivial).below' hbx)
  obtain ⟨ac, kc, rfl, _, _⟩ := hc.form
  obtain ⟨aw, kw, rfl, _, _⟩ := hw.form
  clear hc hw hbx
  go_enter Try.func7, Try.ntmps7
  go_wp2_with fail
  refine (speaks12_any _).mono ?_
  rintro e W1 ⟨rfl, hb1⟩
  have HB1 := Hid.intro' (below_class HB.out hb1)
  have HN1 := Hid.intro' (HN.out.below' hb1)
  have HC1 := Hid.intro' (HC.out.below' hb1)
  have HW1 := Hid.intro' (HW.out.below' hb1)
  clear hb1 HN HB HC HW
  go_wp2_with (refine wpList_load27g rfl _ rfl w.heap.size s.st _ _ rfl HN1.out ?_)
  refine (great_any s _ _ _ _ [] W1 HC1.out HW1.out (RL.nil _ _)).mono ?_
  rintro e W2 ⟨⟨g, rfl, hb2, hs⟩⟩
  have HB2 := Hid.intro' (below_class HB1.out hb2)
  have HN2 := Hid.intro' (HN1.out.below' hb2)
  have HC2 := Hid.intro' (HC1.out.below' hb2)
  have HW2 := Hid.intro' (HW1.out.below' hb2)
  have c14 : W2.cell? ⟨w.heap.size, 14, none⟩ = some (.slice aw s.ws.length kw) := HN2.out.cell 14
  clear hb2 hs HN1 HB1 HC1 HW1
  cases g with
  | true =>
    go_wp2
    go_ret
    exact ⟨rfl, HB2.out⟩
  | false =>
    by_cases h4 : 4 < s.ws.length
    · have h4z : (4 : Int) < (s.ws.length : Int) := by omega
      go_wp2
      go_ret
      exact ⟨rfl, HB2.out⟩
    · have h4z : ¬ (4 : Int) < (s.ws.length : Int) := by omega
      go_wp2_with (refine wpList_load27g (by go_simp) _ rfl w.heap.size s.st _ _ rfl HN2.out ?_)
      refine (rsnapRight_any s _ _ _ W2 HC2.out HW2.out).mono ?_
      rintro e W3 ⟨rfl, hb3⟩
      have HB3 := Hid.intro' (below_class HB2.out hb3)
      have HN3 := Hid.intro' (HN2.out.below' hb3)
      have HC3 := Hid.intro' (HC2.out.below' hb3)
      have HW3 := Hid.intro' (HW2.out.below' hb3)
      clear hb3 HN2 HB2 HC2 HW2 c14
      cases hr : rgt s with
      | false =>
        go_wp2
        go_ret
        exact ⟨rfl, HB3.out⟩
      | true =>
        have HR := Hid.intro' hr
        clear hr
        go_wp2_with (refine wpList_load27g rfl _ rfl w.heap.size s.st _ _ rfl HN3.out ?_)
        refine (rbest_any s _ _ _ W3 HC3.out HW3.out HR.out).mono ?_
        rintro e W4 ⟨rfl, hb4⟩
        have HB4 := Hid.intro' (below_class HB3.out hb4)
        have HN4 := Hid.intro' (HN3.out.below' hb4)
        have HC4 := Hid.intro' (HC3.out.below' hb4)
        have HW4 := Hid.intro' (HW3.out.below' hb4)
        have hbe := bst_best HR.out
        generalize bst s s.ws.length 0 (List.replicate s.cs.length []) = m at hbe ⊢
        have HBE := Hid.intro' hbe
        clear hb4 hbe HN3 HB3 HC3 HW3
        obtain ⟨n, hn, hnm⟩ : ∃ n : Nat, n < 256 ∧ a1 % 256 = (n : Int) := ⟨(a1 % 256).toNat, by omega, by omega⟩
        have hn8 : bits .and .i64 a1 255 = (n : Int) := (i64_mask a1 255 8 (by omega) (by decide)).trans hnm
        have hw8 : IntKind.i64.wrap ((n : Int) + 1) = (n : Int) + 1 := IntWalk.i64_in _ (by omega)
        clear hnm
        go_wp2_with fail
        have HRW : Hid (∀ i : Nat, i < 2 → ∃ b : Nat, 1 ≤ b ∧ b ≤ 1000000 ∧ (W4.alloc (.cells #[.int .i64 1000000, .int .i64 ((n : Int) + 1)] 3)).cell? ⟨W4.heap.size, i, none⟩ = some (.int .i64 (b : Int))) := fun i hi => by
          have h2 : i = 0 ∨ i = 1 := by omega
          rcases h2 with rfl | rfl
          · exact ⟨1000000, by omega, by omega, by go_simp⟩
          · exact ⟨n + 1, by omega, by omega, by go_simp⟩
        have hb5 := (Below.refl W4.heap.size W4).alloc (Nat.le_refl _) (.cells #[.int .i64 1000000, .int .i64 ((n : Int) + 1)] 3)
        have HB5 := Hid.intro' (below_class HB4.out hb5)
        have HN5 := Hid.intro' (HN4.out.below' hb5)
        have HC5 := Hid.intro' (HC4.out.below' hb5)
        have HW5 := Hid.intro' (HW4.out.below' hb5)
        have HS5 : Hid (W4.heap.size < (W4.alloc (.cells #[.int .i64 1000000, .int .i64 ((n : Int) + 1)] 3)).heap.size) := by show _ < _; simp
        clear hb5 HB4 HN4 HC4 HW4 hn8 hw8 hn
        generalize W4.alloc (.cells #[.int .i64 1000000, .int .i64 ((n : Int) + 1)] 3) = W5 at HRW HB5 HN5 HC5 HW5 HS5 ⊢
        generalize W4.heap.size = gb at HRW HS5 ⊢
        go_loopw [32] (fun iv wr => ∃ i : Nat, i ≤ 2 ∧ iv = .int .i64 (i : Int) ∧ Hid (Below W5.heap.size W5 wr)) (fun iv _ => 2 - (intOf iv).toNat)
        case atStart => exact ⟨0, Nat.zero_le _, rfl, Below.refl _ _⟩
        case round =>
          obtain ⟨i, hi, rfl, HBI⟩ := hrel
          by_cases hil : i < 2
          · have hiz : (i : Int) < 2 := by omega
            obtain ⟨b, hb1, hb2, hcl⟩ := HRW.out i hil
            have cb : wr.cell? ⟨gb, i, none⟩ = some (.int .i64 (b : Int)) := (HBI.out.cell (p := ⟨gb, i, none⟩) HS5.out).trans hcl
            have HN6 := Hid.intro' (HN5.out.below' HBI.out)
            have HC6 := Hid.intro' (HC5.out.below' HBI.out)
            have HW6 := Hid.intro' (HW5.out.below' HBI.out)
            clear hcl
            go_wp2_with (refine wpList_load27g rfl _ rfl w.heap.size s.st _ _ rfl HN6.out ?_)
            clear cb
            refine (find_yes (s := s) (B := b) HC6.out HW6.out HR.out hb1 hb2).mono ?_
            rintro e W6 ⟨vp, vf, rfl, hrl, hoy, hb6⟩
            have HOK := Hid.intro' (fnd_ok HR.out b)
            have HBD := Hid.intro' (fnd_bd (B := b) HR.out)
            have HEN : Hid ((fnd s b).ended = true → b ≠ 1000000) := fun he e => by
              subst e
              have h8 : s.cs.length ≤ 8 := by have := (nd0_ok HR.out).nb.bs.p8; have := (nd0_ok HR.out).nb.bs.pc; omega
              rw [fnd_ends HR.out (by omega) h8] at he
              cases he
            have HBS : Hid ((fnd s b).ended = false → (fnd s b).cost = m) := fun he => (fnd_best HR.out he).one HBE.out
            obtain ⟨ap, kp, rfl, _, _⟩ := hrl.form
            obtain ⟨af, kf, rfl⟩ := hoy.slice
            generalize fnd s b = x at hrl hoy HOK HBD HEN HBS ⊢
            have HL6 := Hid.intro' hrl
            have hbz := (Below.refl W6.heap.size W6).alloc (Nat.le_refl _) (.cells #[.slice none 0 0, .int .i64 0, .bool false, .int .i64 0, .slice none 0 0] 48)
            have HZ := Hid.intro' (GB.new W6 (.slice none 0 0) 0 false 0 (.slice none 0 0))
            go_wp2_with (refine wpList_storeG rfl _ _ rfl W6.heap.size rfl rfl HZ.out ?_)
            intro W7 hk7 hg7
            have hb7 : Below W6.heap.size W6 W7 := hk7.below hbz (by simp) (fun i hi e => by omega)
            have hb67 := below_class HBI.out (below_class hb6 hb7)
            have HN7 := Hid.intro' (HN5.out.below' hb67)
            have HC7 := Hid.intro' (HC5.out.below' hb67)
            have HW7 := Hid.intro' (HW5.out.below' hb67)
            have HL7 := Hid.intro' (HL6.out.below' hb7)
            have HG7 := Hid.intro' hg7
            have HBJ := Hid.intro' hb67
            clear hk7 hb7 hb67 hbz hb6 hg7 hrl hoy HZ HL6 HN6 HC6 HW6 HBI
            generalize W6.heap.size = rb at HG7 ⊢
            obtain ⟨M, HM⟩ : ∃ M : Nat, Hid (x.marks.length = M) := ⟨_, Hid.intro' rfl⟩
            obtain ⟨co, HCO⟩ : ∃ c : Int, Hid (x.cost = c) := ⟨_, Hid.intro' rfl⟩
            rw [HM.out, HCO.out] at HG7 ⊢
            have hd1 : decide ((b : Int) < (M : Int)) = false := decide_eq_false (by have := HM.out; have := HBD.out.2.2.2; omega)
            have hd3 : decide (b < M) = false := decide_eq_false (by have := HM.out; have := HBD.out.2.2.2; omega)
            have hd2 : decide (co < m) = false := decide_eq_false (by have h1 := HBE.out.least _ HOK.out.fe; rw [← HOK.out.co, HCO.out] at h1; omega)
            have HNB : Hid (∀ w', Below W7.heap.size W7 w' → NB w' w.heap.size s.st (.slice ac s.cs.length kc) (.slice aw s.ws.length kw)) := fun w' hw => HN7.out.below' hw
            have HR0 : Hid (∀ w', Below W7.heap.size W7 w' → w'.cell? ⟨rb, 0, none⟩ = some (.slice ap x.plan.length kp)) := fun w' hw => (HG7.out.below' hw).cell 0
            have HR1 : Hid (∀ w', Below W7.heap.size W7 w' → w'.cell? ⟨rb, 1, none⟩ = some (.int .i64 co)) := fun w' hw => (HG7.out.below' hw).cell 1
            have HR3 : Hid (∀ w', Below W7.heap.size W7 w' → w'.cell? ⟨rb, 3, none⟩ = some (.int .i64 (M : Int))) := fun w' hw => (HG7.out.below' hw).cell 3
            have H1 : Hid (∀ w', Below W7.heap.size W7 w' → Calls Try.prog 16 #[.agg (nv s.st (.slice ac s.cs.length kc) (.slice aw s.ws.length kw)).toArray, .slice ap x.plan.length kp] w' fun e w'' => e = .returned (.bool true) ∧ Below w'.heap.size w' w'') := fun w' hw => by
              have := rfeasible_any s (fun _ => True) _ _ _ x.plan w' (HC7.out.below' hw) (HW7.out.below' hw) (HL7.out.below' hw) (by have := HBD.out.2.1; omega) (fun l hl => by have := (HBD.out.2.2.1 l hl).1; omega)
              rwa [HOK.out.fe] at this
            have H2 : Hid (∀ w', Below W7.heap.size W7 w' → Calls Try.prog 17 #[.agg (nv s.st (.slice ac s.cs.length kc) (.slice aw s.ws.length kw)).toArray, .slice ap x.plan.length kp] w' fun e w'' => e = .returned (.int .i64 co) ∧ Below w'.heap.size w' w'') := fun w' hw => by
              have := rcost_any s (fun _ => True) _ _ _ x.plan w' (HC7.out.below' hw) (HW7.out.below' hw) (HL7.out.below' hw) HOK.out.fe (fun l hl => by have := (HBD.out.2.2.1 l hl).1; omega)
              rwa [← HOK.out.co, HCO.out] at this
            go_wp2_with fail
            refine wp_region_quiet (C := fun w' => Below W7.heap.size W7 w') (by kernel_rfl) (by kernel_rfl) ((Below.refl _ _).drew) ?_
            simp only []
            unfold wpQuiet
            generalize hK : wpQuiet Try.prog _ _ _ _ = K
            go_simp
            refine ⟨_, fun _ _ => rfl, ?_⟩
            subst hK
            unfold wpQuiet
            generalize hK : wpQuiet Try.prog _ _ _ _ = K
            go_simp
            refine ⟨_, fun _ _ => rfl, ?_⟩
            subst hK
            unfold wpQuiet
            generalize hK : wpQuiet Try.prog _ _ _ _ = K
            go_simp
            refine ⟨_, fun _ _ => rfl, ?_⟩
            subst hK
            unfold wpQuiet
            generalize hK : wpQuiet Try.prog _ _ _ _ = K
            rw [if_pos (by go_simp)]
            refine quiet_load27 _ w.heap.size s.st _ _ rfl rfl HNB.out ?_
            go_simp
            subst hK
            unfold wpQuiet
            generalize hK : wpQuiet Try.prog _ _ _ _ = K
            go_simp
            refine ⟨_, fun _ _ => rfl, ?_⟩
            subst hK
            unfold wpQuiet
            generalize hK : wpQuiet Try.prog _ _ _ _ = K
            rw [if_pos (by go_simp)]
            refine quiet_cellP _ rb 0 rfl rfl HR0.out ?_
            go_simp
            subst hK
            unfold wpQuiet
            generalize hK : wpQuiet Try.prog _ _ _ _ = K
            go_simp
            refine ⟨_, fun w' hw => (H1.out w' hw).mono fun e w'' hh => ⟨hh.1, below_class hw hh.2⟩, ?_⟩
            subst hK
            unfold wpQuiet
            generalize hK : wpQuiet Try.prog _ _ _ _ = K
            go_simp
            refine ⟨_, fun _ _ => rfl, ?_⟩
            subst hK
            unfold wpQuiet
            generalize hK : wpQuiet Try.prog _ _ _ _ = K
            go_simp
            refine ⟨_, fun _ _ => rfl, ?_⟩
            subst hK
            unfold wpQuiet
            generalize hK : wpQuiet Try.prog _ _ _ _ = K
            go_simp
            refine ⟨_, fun _ _ => rfl, ?_⟩
            subst hK
            unfold wpQuiet
            generalize hK : wpQuiet Try.prog _ _ _ _ = K
            rw [if_pos (by go_simp)]
            refine quiet_load27 _ w.heap.size s.st _ _ rfl rfl HNB.out ?_
            go_simp
            subst hK
            unfold wpQuiet
            generalize hK : wpQuiet Try.prog _ _ _ _ = K
            go_simp
            refine ⟨_, fun _ _ => rfl, ?_⟩
            subst hK
            unfold wpQuiet
            generalize hK : wpQuiet Try.prog _ _ _ _ = K
            rw [if_pos (by go_simp)]
            refine quiet_cellP _ rb 0 rfl rfl HR0.out ?_
            go_simp
            subst hK
            unfold wpQuiet
            generalize hK : wpQuiet Try.prog _ _ _ _ = K
            go_simp
            refine ⟨_, fun w' hw => (H2.out w' hw).mono fun e w'' hh => ⟨hh.1, below_class hw hh.2⟩, ?_⟩
            subst hK
            unfold wpQuiet
            generalize hK : wpQuiet Try.prog _ _ _ _ = K
            go_simp
            refine ⟨_, fun _ _ => rfl, ?_⟩
            subst hK
            unfold wpQuiet
            generalize hK : wpQuiet Try.prog _ _ _ _ = K
            rw [if_pos (by go_simp)]
            refine quiet_cell3 _ rb 1 rfl rfl HR1.out ?_
            go_simp
            subst hK
            unfold wpQuiet
            generalize hK : wpQuiet Try.prog _ _ _ _ = K
            go_simp
            refine ⟨_, fun _ _ => rfl, ?_⟩
            subst hK
            unfold wpQuiet
            generalize hK : wpQuiet Try.prog _ _ _ _ = K
            go_simp
            refine ⟨_, fun _ _ => rfl, ?_⟩
            subst hK
            unfold wpQuiet
            generalize hK : wpQuiet Try.prog _ _ _ _ = K
            go_simp
            refine ⟨_, fun _ _ => rfl, ?_⟩
            subst hK
            unfold wpQuiet
            generalize hK : wpQuiet Try.prog _ _ _ _ = K
            go_simp
            refine ⟨_, fun _ _ => rfl, ?_⟩
            subst hK
            unfold wpQuiet
            generalize hK : wpQuiet Try.prog _ _ _ _ = K
            rw [if_pos (by go_simp)]
            refine quiet_cell3 _ rb 3 rfl rfl HR3.out ?_
            go_simp
            subst hK
            unfold wpQuiet
            generalize hK : wpQuiet Try.prog _ _ _ _ = K
            go_simp
            refine ⟨_, fun _ _ => rfl, ?_⟩
            subst hK
            unfold wpQuiet
            generalize hK : wpQuiet Try.prog _ _ _ _ = K
            go_simp
            refine ⟨_, fun _ _ => rfl, ?_⟩
            subst hK
            unfold wpQuiet
            generalize hK : wpQuiet Try.prog _ _ _ _ = K
            go_simp
            refine ⟨_, fun _ _ => rfl, ?_⟩
            subst hK
            unfold wpQuiet
            generalize hK : wpQuiet Try.prog _ _ _ _ = K
            go_simp
            refine ⟨_, fun _ _ => rfl, ?_⟩
            subst hK
            unfold wpQuiet
            generalize hK : wpQuiet Try.prog _ _ _ _ = K
            go_simp
            refine ⟨_, fun _ _ => rfl, ?_⟩
            subst hK
            unfold wpQuiet
            generalize hK : wpQuiet Try.prog _ _ _ _ = K
            rw [if_pos (by go_simp)]
            refine quiet_cell3 _ rb 1 rfl rfl HR1.out ?_
            go_simp
            subst hK
            unfold wpQuiet
            generalize hK : wpQuiet Try.prog _ _ _ _ = K
            go_simp
            refine ⟨_, fun _ _ => rfl, ?_⟩
            subst hK
            unfold wpQuiet
            generalize hK : wpQuiet Try.prog _ _ _ _ = K
            go_simp
            refine ⟨_, fun _ _ => rfl, ?_⟩
            subst hK
            unfold wpQuiet
            generalize hK : wpQuiet Try.prog _ _ _ _ = K
            go_simp
            refine ⟨_, fun _ _ => rfl, ?_⟩
            subst hK
            refine wpQuiet_nil ?_
            intro W8 hb8
            have HBK := Hid.intro' (below_class HBJ.out hb8)
            have HG8 := HG7.out.below' hb8
            have c1 : W8.cell? ⟨rb, 1, none⟩ = some (.int .i64 co) := HG8.cell 1
            have c2 : W8.cell? ⟨rb, 2, none⟩ = some (.bool (!x.ended)) := HG8.cell 2
            rw [HCO.out] at HBS
            clear hb8 HG8 HBJ HNB HR0 HR1 HR3 H1 H2 HN7 HC7 HW7 HL7 HG7 hd1 hd2 hd3 HOK HBD HM HCO
            cases hen : x.ended with
            | false =>
              have hcm := HBS.out hen
              rw [hen] at c2
              have c3 : W8.cell? ⟨rb, 2, none⟩ = some (.bool true) := c2
              subst hcm
              clear c2 HBS HEN hen
              by_cases hbz : (b : Int) = 1000000
              · go_wp2
                go_roundw
                case rel => exact ⟨i + 1, by omega, by go_num, HBK⟩
                case measure => simp [intOf]; omega
              · go_wp2
                go_roundw
                case rel => exact ⟨i + 1, by omega, by go_num, HBK⟩
                case measure => simp [intOf]; omega
            | true =>
              have hbn := HEN.out hen
              have hbz : ¬ ((b : Int) = 1000000) := by omega
              rw [hen] at c2
              have c3 : W8.cell? ⟨rb, 2, none⟩ = some (.bool false) := c2
              clear c2 HBS HEN hen
              go_wp2
              go_roundw
              case rel => exact ⟨i + 1, by omega, by go_num, HBK⟩
              case measure => simp [intOf]; omega
          · have hiz : ¬ (i : Int) < 2 := by omega
            have HE := Hid.intro' (below_class HB5.out HBI.out)
            go_wp2
            go_ret
            exact ⟨rfl, HE.out⟩

end Go.Proofs.Ytigjbgecdaljkag
