/- CheckSound. -/
import Derived.Test.YtagmidolcdefiahCkS
import Derived.Test.YtagmidolcdefiahPk13
import Derived.Test.YtagmidolcdefiahSrC
import Derived.Test.YtagmidolcdefiahPk5
import Derived.Test.YtagmidolcdefiahPk4
namespace Go.Proofs.Ytagmidolcdefiah
open Go.RowKit Go.Shelf
set_option maxRecDepth 100000 in
set_option maxHeartbeats 4000000 in
theorem CheckSound_any (s : Sn) (D : Nat → Prop) (vc vw v : Value) (b : List Nat) (w : World) (hc : R2 D w vc s.cs) (hw : R2 D w vw s.ws) (hb : RY D w v b) :
    Calls Try.prog 5 #[.agg (nv s.st vc vw).toArray, v] w fun e w' => e = .returned (.bool true) ∧ Below w.heap.size w w' := by
  have hbx := (Below.refl w.heap.size w).alloc (Nat.le_refl _) (.cells (nv s.st vc vw).toArray 27)
  have HN := Hid.intro' (NB.new w s.st vc vw)
  have HB := Hid.intro' hbx
  have HC := Hid.intro' ((hc.mono (D' := fun _ => True) fun _ _ _ _ => trivial).below' hbx)
  have HW := Hid.intro' ((hw.mono (D' := fun _ => True) fun _ _ _ _ => trivial).below' hbx)
  have HY := Hid.intro' (hb.mono (D' := fun _ => True) fun _ _ _ _ => trivial)
  obtain ⟨ac, kc, rfl, _, _⟩ := hc.form
  obtain ⟨aw, kw, rfl, _, _⟩ := hw.form
  obtain ⟨av, kv, rfl, _, _, _⟩ := hb.form
  clear hc hw hbx hb
  go_enter Try.func5, Try.ntmps5
  go_wp2_with fail
  refine (speaks13_any _).mono ?_
  rintro e W1 ⟨rfl, hb1⟩
  have HB1 := Hid.intro' (below_class HB.out hb1)
  have HN1 := Hid.intro' (HN.out.below' hb1)
  have HC1 := Hid.intro' (HC.out.below' hb1)
  have HW1 := Hid.intro' (HW.out.below' hb1)
  clear hb1 HN HB HC HW
  go_wp2_with (refine wpList_load27g rfl _ rfl w.heap.size s.st _ _ rfl HN1.out ?_)
  refine (great_any s _ _ _ _ [] W1 HC1.out HW1.out (RL.nil _ _)).mono ?_
  rintro e W2 ⟨⟨g, rfl, hb2, hs⟩⟩
  have HB2 := Hid.intro' (below_class HB1.out hb2)
  have HN2 := Hid.intro' (HN1.out.below' hb2)
  have HC2 := Hid.intro' (HC1.out.below' hb2)
  have HW2 := Hid.intro' (HW1.out.below' hb2)
  clear hb2 hs HN1 HB1 HC1 HW1
  cases g with
  | true =>
    go_wp2
    go_ret
    exact ⟨rfl, HB2.out⟩
  | false =>
    by_cases h3 : 3000 < b.length
    · have q3 : (3000 : Int) < (b.length : Int) := by omega
      go_wp2
      go_ret
      exact ⟨rfl, HB2.out⟩
    · have q3 : ¬ (3000 : Int) < (b.length : Int) := by omega
      have c14 : W2.cell? ⟨w.heap.size, 14, none⟩ = some (.slice aw s.ws.length kw) := HN2.out.cell 14
      by_cases h4 : 4 < s.ws.length
      · have q4 : (4 : Int) < (s.ws.length : Int) := by omega
        go_wp2
        go_ret
        exact ⟨rfl, HB2.out⟩
      · have q4 : ¬ (4 : Int) < (s.ws.length : Int) := by omega
        have HCK := Hid.intro' (check_any s (fun _ => True) _ _ _ b W2 HC2.out HW2.out (HY.out.below' HB2.out) (by omega))
        obtain ⟨x, HX⟩ : ∃ x, Hid (ckw s b = x) := ⟨_, Hid.intro' rfl⟩
        go_wp2_with (refine wpList_load27g rfl _ rfl w.heap.size s.st _ _ rfl HN2.out ?_)
        clear c14 q3 q4
        refine HCK.out.mono ?_
        rintro e W3 ⟨hb3, vp, rfl, hrl⟩
        rw [HX.out] at hrl ⊢
        obtain ⟨n, ok, co, p⟩ := x
        obtain ⟨ap, kp, rfl, _, _⟩ := hrl.form
        dsimp only at hrl ⊢
        have HB3 := Hid.intro' (below_class HB2.out hb3)
        have HN3 := Hid.intro' (HN2.out.below' hb3)
        have HC3 := Hid.intro' (HC2.out.below' hb3)
        have HW3 := Hid.intro' (HW2.out.below' hb3)
        have HL3 : Hid (RL (fun _ => True) W3 (.slice ap p.length kp) p) := hrl.mono fun _ _ _ _ => trivial
        have HZ := Hid.intro' (JB.new W3 false 0 (.slice none 0 0))
        have hbz := (Below.refl W3.heap.size W3).alloc (Nat.le_refl _) (.cells #[.bool false, .int .i64 0, .slice none 0 0] 43)
        have HBZ := Hid.intro' hbz
        clear hbz hb3 hrl HB2 HN2 HC2 HW2 HCK
        go_wp2_with (refine wpList_storeJ rfl _ _ rfl W3.heap.size rfl rfl HZ.out ?_)
        intro W4 hk4 hg4
        have hb4 := hk4.below HBZ.out HBZ.out.size (fun i hi e => by omega)
        have HB4 := Hid.intro' (below_class HB3.out hb4)
        have HN4 := Hid.intro' (HN3.out.below' hb4)
        have HC4 := Hid.intro' (HC3.out.below' hb4)
        have HW4 := Hid.intro' (HW3.out.below' hb4)
        have HL4 := Hid.intro' (HL3.out.below' hb4)
        have HG4 := Hid.intro' hg4
        clear hb4 hk4 hg4 HB3 HN3 HC3 HW3 HL3 HZ HBZ
        generalize W3.heap.size = cb at HG4 ⊢
        by_cases hn : n = 0
        · subst hn
          obtain ⟨hfe, hco, hbe⟩ := ckw_sound HX.out
          dsimp only at hfe hco hbe
          have hfs := fsb_fs hfe
          have hll := fs_ll hfs
          have HRG := Hid.intro' hfs.rg
          have HDR : Hid (∀ w', Below W4.heap.size W4 w' → NB w' w.heap.size s.st (.slice ac s.cs.length kc) (.slice aw s.ws.length kw)) := fun w' hw => HN4.out.below' hw
          have J0 : Hid (∀ w', Below W4.heap.size W4 w' → w'.cell? ⟨cb, 0, none⟩ = some (.bool ok)) := fun w' hw => (HG4.out.below' hw).cell 0
          have J1 : Hid (∀ w', Below W4.heap.size W4 w' → w'.cell? ⟨cb, 1, none⟩ = some (.int .i64 co)) := fun w' hw => (HG4.out.below' hw).cell 1
          have J2 : Hid (∀ w', Below W4.heap.size W4 w' → w'.cell? ⟨cb, 2, none⟩ = some (.slice ap p.length kp)) := fun w' hw => (HG4.out.below' hw).cell 2
          have HFE : Hid (∀ w', Below W4.heap.size W4 w' → Calls Try.prog 16 #[.agg (nv s.st (.slice ac s.cs.length kc) (.slice aw s.ws.length kw)).toArray, .slice ap p.length kp] w' fun e w'' => e = .returned (.bool true) ∧ Below w'.heap.size w' w'') := fun w' hw => by
            have h := rfeasible_any s (fun _ => True) (.slice ac s.cs.length kc) (.slice aw s.ws.length kw) (.slice ap p.length kp) p w' (HC4.out.below' hw) (HW4.out.below' hw) (HL4.out.below' hw) (by have := hfs.p8; omega) (fun l hl => by have := (hll l hl).1; omega)
            rw [hfe] at h
            exact h
          have HCO : Hid (∀ w', Below W4.heap.size W4 w' → Calls Try.prog 17 #[.agg (nv s.st (.slice ac s.cs.length kc) (.slice aw s.ws.length kw)).toArray, .slice ap p.length kp] w' fun e w'' => e = .returned (.int .i64 co) ∧ Below w'.heap.size w' w'') := fun w' hw => by
            have h := rcost_any s (fun _ => True) (.slice ac s.cs.length kc) (.slice aw s.ws.length kw) (.slice ap p.length kp) p w' (HC4.out.below' hw) (HW4.out.below' hw) (HL4.out.below' hw) hfe (fun l hl => by have := (hll l hl).1; omega)
            rw [hco] at h
            exact h
          have HBE : Hid (ok = true → ∀ w', Below W4.heap.size W4 w' → Calls Try.prog 18 #[.agg (nv s.st (.slice ac s.cs.length kc) (.slice aw s.ws.length kw)).toArray] w' fun e w'' => e = .returned (.int .i64 co) ∧ Below w'.heap.size w' w'') := fun ho w' hw => by
            have h := rbest_any s (fun _ => True) (.slice ac s.cs.length kc) (.slice aw s.ws.length kw) w' (HC4.out.below' hw) (HW4.out.below' hw) HRG.out
            rw [(bst_best HRG.out).one (hbe ho)] at h
            exact h
          clear hfe hco hbe hfs hll
          go_wp2_with fail
          refine wp_region_quiet (C := fun w' => Below W4.heap.size W4 w') (by kernel_rfl) (by kernel_rfl) ((Below.refl _ _).drew) ?_
          simp only []
          cases ok with
          | true =>
            have HBT := Hid.intro' (HBE.out rfl)
            unfold wpQuiet
            generalize hK : wpQuiet Try.prog _ _ _ _ = K
            rw [if_pos (by go_simp)]
            refine quiet_load27 _ w.heap.size s.st _ _ rfl rfl HDR.out ?_
            go_simp
            subst hK
            unfold wpQuiet
            generalize hK : wpQuiet Try.prog _ _ _ _ = K
            go_simp
            refine ⟨_, fun _ _ => rfl, ?_⟩
            subst hK
            unfold wpQuiet
            generalize hK : wpQuiet Try.prog _ _ _ _ = K
            rw [if_pos (by go_simp)]
            refine quiet_cellP _ cb 2 rfl rfl J2.out ?_
            go_simp
            subst hK
            unfold wpQuiet
            generalize hK : wpQuiet Try.prog _ _ _ _ = K
            go_simp
            refine ⟨_, fun w' hw => (HFE.out w' hw).mono fun e w'' hh => ⟨hh.1, below_class hw hh.2⟩, ?_⟩
            subst hK
            unfold wpQuiet
            generalize hK : wpQuiet Try.prog _ _ _ _ = K
            go_simp
            refine ⟨_, fun _ _ => rfl, ?_⟩
            subst hK
            unfold wpQuiet
            generalize hK : wpQuiet Try.prog _ _ _ _ = K
            rw [if_pos (by go_simp)]
            refine quiet_load27 _ w.heap.size s.st _ _ rfl rfl HDR.out ?_
            go_simp
            subst hK
            unfold wpQuiet
            generalize hK : wpQuiet Try.prog _ _ _ _ = K
            go_simp
            refine ⟨_, fun _ _ => rfl, ?_⟩
            subst hK
            unfold wpQuiet
            generalize hK : wpQuiet Try.prog _ _ _ _ = K
            rw [if_pos (by go_simp)]
            refine quiet_cellP _ cb 2 rfl rfl J2.out ?_
            go_simp
            subst hK
            unfold wpQuiet
            generalize hK : wpQuiet Try.prog _ _ _ _ = K
            go_simp
            refine ⟨_, fun w' hw => (HCO.out w' hw).mono fun e w'' hh => ⟨hh.1, below_class hw hh.2⟩, ?_⟩
            subst hK
            unfold wpQuiet
            generalize hK : wpQuiet Try.prog _ _ _ _ = K
            go_simp
            refine ⟨_, fun _ _ => rfl, ?_⟩
            subst hK
            unfold wpQuiet
            generalize hK : wpQuiet Try.prog _ _ _ _ = K
            rw [if_pos (by go_simp)]
            refine quiet_cell3 _ cb 1 rfl rfl J1.out ?_
            go_simp
            subst hK
            unfold wpQuiet
            generalize hK : wpQuiet Try.prog _ _ _ _ = K
            go_simp
            refine ⟨_, fun _ _ => rfl, ?_⟩
            subst hK
            unfold wpQuiet
            generalize hK : wpQuiet Try.prog _ _ _ _ = K
            go_simp
            refine ⟨_, fun _ _ => rfl, ?_⟩
            subst hK
            unfold wpQuiet
            generalize hK : wpQuiet Try.prog _ _ _ _ = K
            go_simp
            refine ⟨_, fun _ _ => rfl, ?_⟩
            subst hK
            unfold wpQuiet
            generalize hK : wpQuiet Try.prog _ _ _ _ = K
            go_simp
            refine ⟨_, fun _ _ => rfl, ?_⟩
            subst hK
            unfold wpQuiet
            generalize hK : wpQuiet Try.prog _ _ _ _ = K
            rw [if_pos (by go_simp)]
            refine quiet_cell4 _ cb 0 rfl rfl J0.out ?_
            go_simp
            subst hK
            unfold wpQuiet
            generalize hK : wpQuiet Try.prog _ _ _ _ = K
            go_simp
            refine ⟨_, fun _ _ => rfl, ?_⟩
            subst hK
            unfold wpQuiet
            generalize hK : wpQuiet Try.prog _ _ _ _ = K
            go_simp
            refine ⟨_, fun _ _ => rfl, ?_⟩
            subst hK
            unfold wpQuiet
            generalize hK : wpQuiet Try.prog _ _ _ _ = K
            rw [if_pos (by go_simp)]
            refine quiet_load27 _ w.heap.size s.st _ _ rfl rfl HDR.out ?_
            go_simp
            subst hK
            unfold wpQuiet
            generalize hK : wpQuiet Try.prog _ _ _ _ = K
            go_simp
            refine ⟨_, fun w' hw => (HBT.out w' hw).mono fun e w'' hh => ⟨hh.1, below_class hw hh.2⟩, ?_⟩
            subst hK
            unfold wpQuiet
            generalize hK : wpQuiet Try.prog _ _ _ _ = K
            go_simp
            refine ⟨_, fun _ _ => rfl, ?_⟩
            subst hK
            unfold wpQuiet
            generalize hK : wpQuiet Try.prog _ _ _ _ = K
            rw [if_pos (by go_simp)]
            refine quiet_cell3 _ cb 1 rfl rfl J1.out ?_
            go_simp
            subst hK
            unfold wpQuiet
            generalize hK : wpQuiet Try.prog _ _ _ _ = K
            go_simp
            refine ⟨_, fun _ _ => rfl, ?_⟩
            subst hK
            unfold wpQuiet
            generalize hK : wpQuiet Try.prog _ _ _ _ = K
            go_simp
            refine ⟨_, fun _ _ => rfl, ?_⟩
            subst hK
            unfold wpQuiet
            generalize hK : wpQuiet Try.prog _ _ _ _ = K
            go_simp
            refine ⟨_, fun _ _ => rfl, ?_⟩
            subst hK
            unfold wpQuiet
            generalize hK : wpQuiet Try.prog _ _ _ _ = K
            go_simp
            refine ⟨_, fun _ _ => rfl, ?_⟩
            subst hK
            refine wpQuiet_nil ?_
            intro W7 hb7
            have HB7 := Hid.intro' (below_class HB4.out hb7)
            clear hb7 HDR J0 J1 J2 HFE HCO HBE HBT
            go_wp2
            go_ret
            exact ⟨rfl, HB7.out⟩
          | false =>
            unfold wpQuiet
            generalize hK : wpQuiet Try.prog _ _ _ _ = K
            rw [if_pos (by go_simp)]
            refine quiet_load27 _ w.heap.size s.st _ _ rfl rfl HDR.out ?_
            go_simp
            subst hK
            unfold wpQuiet
            generalize hK : wpQuiet Try.prog _ _ _ _ = K
            go_simp
            refine ⟨_, fun _ _ => rfl, ?_⟩
            subst hK
            unfold wpQuiet
            generalize hK : wpQuiet Try.prog _ _ _ _ = K
            rw [if_pos (by go_simp)]
            refine quiet_cellP _ cb 2 rfl rfl J2.out ?_
            go_simp
            subst hK
            unfold wpQuiet
            generalize hK : wpQuiet Try.prog _ _ _ _ = K
            go_simp
            refine ⟨_, fun w' hw => (HFE.out w' hw).mono fun e w'' hh => ⟨hh.1, below_class hw hh.2⟩, ?_⟩
            subst hK
            unfold wpQuiet
            generalize hK : wpQuiet Try.prog _ _ _ _ = K
            go_simp
            refine ⟨_, fun _ _ => rfl, ?_⟩
            subst hK
            unfold wpQuiet
            generalize hK : wpQuiet Try.prog _ _ _ _ = K
            rw [if_pos (by go_simp)]
            refine quiet_load27 _ w.heap.size s.st _ _ rfl rfl HDR.out ?_
            go_simp
            subst hK
            unfold wpQuiet
            generalize hK : wpQuiet Try.prog _ _ _ _ = K
            go_simp
            refine ⟨_, fun _ _ => rfl, ?_⟩
            subst hK
            unfold wpQuiet
            generalize hK : wpQuiet Try.prog _ _ _ _ = K
            rw [if_pos (by go_simp)]
            refine quiet_cellP _ cb 2 rfl rfl J2.out ?_
            go_simp
            subst hK
            unfold wpQuiet
            generalize hK : wpQuiet Try.prog _ _ _ _ = K
            go_simp
            refine ⟨_, fun w' hw => (HCO.out w' hw).mono fun e w'' hh => ⟨hh.1, below_class hw hh.2⟩, ?_⟩
            subst hK
            unfold wpQuiet
            generalize hK : wpQuiet Try.prog _ _ _ _ = K
            go_simp
            refine ⟨_, fun _ _ => rfl, ?_⟩
            subst hK
            unfold wpQuiet
            generalize hK : wpQuiet Try.prog _ _ _ _ = K
            rw [if_pos (by go_simp)]
            refine quiet_cell3 _ cb 1 rfl rfl J1.out ?_
            go_simp
            subst hK
            unfold wpQuiet
            generalize hK : wpQuiet Try.prog _ _ _ _ = K
            go_simp
            refine ⟨_, fun _ _ => rfl, ?_⟩
            subst hK
            unfold wpQuiet
            generalize hK : wpQuiet Try.prog _ _ _ _ = K
            go_simp
            refine ⟨_, fun _ _ => rfl, ?_⟩
            subst hK
            unfold wpQuiet
            generalize hK : wpQuiet Try.prog _ _ _ _ = K
            go_simp
            refine ⟨_, fun _ _ => rfl, ?_⟩
            subst hK
            unfold wpQuiet
            generalize hK : wpQuiet Try.prog _ _ _ _ = K
            go_simp
            refine ⟨_, fun _ _ => rfl, ?_⟩
            subst hK
            unfold wpQuiet
            generalize hK : wpQuiet Try.prog _ _ _ _ = K
            rw [if_pos (by go_simp)]
            refine quiet_cell4 _ cb 0 rfl rfl J0.out ?_
            go_simp
            subst hK
            unfold wpQuiet
            generalize hK : wpQuiet Try.prog _ _ _ _ = K
            go_simp
            refine ⟨_, fun _ _ => rfl, ?_⟩
            subst hK
            unfold wpQuiet
            generalize hK : wpQuiet Try.prog _ _ _ _ = K
            go_simp
            refine ⟨_, fun _ _ => rfl, ?_⟩
            subst hK
            unfold wpQuiet
            generalize hK : wpQuiet Try.prog _ _ _ _ = K
            go_simp
            subst hK
            unfold wpQuiet
            generalize hK : wpQuiet Try.prog _ _ _ _ = K
            go_simp
            subst hK
            unfold wpQuiet
            generalize hK : wpQuiet Try.prog _ _ _ _ = K
            go_simp
            subst hK
            unfold wpQuiet
            generalize hK : wpQuiet Try.prog _ _ _ _ = K
            go_simp
            subst hK
            unfold wpQuiet
            generalize hK : wpQuiet Try.prog _ _ _ _ = K
            go_simp
            subst hK
            unfold wpQuiet
            generalize hK : wpQuiet Try.prog _ _ _ _ = K
            go_simp
            refine ⟨_, fun _ _ => rfl, ?_⟩
            subst hK
            unfold wpQuiet
            generalize hK : wpQuiet Try.prog _ _ _ _ = K
            go_simp
            refine ⟨_, fun _ _ => rfl, ?_⟩
            subst hK
            unfold wpQuiet
            generalize hK : wpQuiet Try.prog _ _ _ _ = K
            go_simp
            refine ⟨_, fun _ _ => rfl, ?_⟩
            subst hK
            refine wpQuiet_nil ?_
            intro W7 hb7
            have HB7 := Hid.intro' (below_class HB4.out hb7)
            clear hb7 HDR J0 J1 J2 HFE HCO HBE
            go_wp2
            go_ret
            exact ⟨rfl, HB7.out⟩
        · have herr := ckw_err (s := s) (b := b) (by rw [HX.out]; exact hn)
          rw [HX.out] at herr
          unfold clm0 at herr
          cases herr
          have qn : ¬ (n : Int) = 0 := by omega
          have qm : ((n : Int) != 0) = true := by simpa using qn
          have c0 : W4.cell? ⟨cb, 0, none⟩ = some (.bool false) := HG4.out.cell 0
          have c1 : W4.cell? ⟨cb, 1, none⟩ = some (.int .i64 0) := HG4.out.cell 1
          have c2 : W4.cell? ⟨cb, 2, none⟩ = some (.slice ap 0 kp) := HG4.out.cell 2
          go_wp2
          go_ret
          exact ⟨rfl, HB4.out⟩
end Go.Proofs.Ytagmidolcdefiah
