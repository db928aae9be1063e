/- CheckSearch. -/
import Derived.Test.YtagmidolcdefiahCkS
import Derived.Test.YtagmidolcdefiahPk14
import Derived.Test.YtagmidolcdefiahSlO
import Derived.Test.YtagmidolcdefiahPk13
namespace Go.Proofs.Ytagmidolcdefiah
open Go.RowKit Go.Shelf
set_option maxRecDepth 100000 in
set_option maxHeartbeats 4000000 in
theorem CheckSearch_any (s : Sn) (D : Nat → Prop) (vc vw : Value) (a1 : Int) (w : World) (hc : R2 D w vc s.cs) (hw : R2 D w vw s.ws) :
    Calls Try.prog 6 #[.agg (nv s.st vc vw).toArray, .int .i64 a1] w fun e w' => e = .returned (.bool true) ∧ Below w.heap.size w w' := by
  have hbx := (Below.refl w.heap.size w).alloc (Nat.le_refl _) (.cells (nv s.st vc vw).toArray 27)
  have HN := Hid.intro' (NB.new w s.st vc vw)
  have HB := Hid.intro' hbx
  have HC := Hid.intro' ((hc.mono (D' := fun _ => True) fun _ _ _ _ => trivial).below' hbx)
  have HW := Hid.intro' ((hw.mono (D' := fun _ => True) fun _ _ _ _ => trivial).below' hbx)
  obtain ⟨ac, kc, rfl, _, _⟩ := hc.form
  obtain ⟨aw, kw, rfl, _, _⟩ := hw.form
  clear hc hw hbx
  go_enter Try.func6, Try.ntmps6
  go_wp2_with fail
  refine (speaks13_any _).mono ?_
  rintro e W1 ⟨rfl, hb1⟩
  have HB1 := Hid.intro' (below_class HB.out hb1)
  have HN1 := Hid.intro' (HN.out.below' hb1)
  have HC1 := Hid.intro' (HC.out.below' hb1)
  have HW1 := Hid.intro' (HW.out.below' hb1)
  clear hb1 HN HB HC HW
  go_wp2_with (refine wpList_load27g rfl _ rfl w.heap.size s.st _ _ rfl HN1.out ?_)
  refine (great_any s _ _ _ _ [] W1 HC1.out HW1.out (RL.nil _ _)).mono ?_
  rintro e W2 ⟨⟨g, rfl, hb2, hs⟩⟩
  have HB2 := Hid.intro' (below_class HB1.out hb2)
  have HN2 := Hid.intro' (HN1.out.below' hb2)
  have HC2 := Hid.intro' (HC1.out.below' hb2)
  have HW2 := Hid.intro' (HW1.out.below' hb2)
  clear hb2 hs HN1 HB1 HC1 HW1
  cases g with
  | true =>
    go_wp2
    go_ret
    exact ⟨rfl, HB2.out⟩
  | false =>
    by_cases h3 : 3000 < a1
    · go_wp2
      go_ret
      exact ⟨rfl, HB2.out⟩
    · by_cases hyes : rgt s = true ∧ 1 ≤ a1
      · obtain ⟨hr, h1⟩ := hyes
        have HR := Hid.intro' hr
        obtain ⟨B, rfl⟩ : ∃ B : Nat, a1 = (B : Int) := ⟨a1.toNat, by omega⟩
        have HFI := Hid.intro' (find_yes (s := s) (B := B) HC2.out HW2.out hr (by omega) (by omega))
        go_wp2_with (refine wpList_load27g rfl _ rfl w.heap.size s.st _ _ rfl HN2.out ?_)
        refine HFI.out.mono ?_
        rintro e W3 ⟨vp, vf, rfl, hrl, hoy, hb3⟩
        have hby := prf_byt (B := B) hr
        have hpl := prf_len (B := B) hr
        have hck := ckw_find (B := B) hr
        have hbd := fnd_bd (B := B) hr
        obtain ⟨x, HX⟩ : ∃ x, Hid (fnd s B = x) := ⟨_, Hid.intro' rfl⟩
        rw [HX.out] at hrl hoy hby hpl hck hbd ⊢
        obtain ⟨af, kf, rfl⟩ := hoy.slice
        obtain ⟨ar, kr, rfl, _, _⟩ := hrl.form
        have HB3 := Hid.intro' (below_class HB2.out hb3)
        have HN3 := Hid.intro' (HN2.out.below' hb3)
        have HC3 := Hid.intro' (HC2.out.below' hb3)
        have HW3 := Hid.intro' (HW2.out.below' hb3)
        have HL3 := Hid.intro' hrl
        have HY3 : Hid (RY (fun _ => True) W3 (.slice af (prf x).length kf) (prf x)) := hoy.ry hby fun _ _ => trivial
        have HCK := Hid.intro' hck
        have HBD := Hid.intro' hbd
        have HPN := Hid.intro' hpl
        have HZ := Hid.intro' (GB.new W3 (.slice none 0 0) 0 false 0 (.slice none 0 0))
        have hbz := (Below.refl W3.heap.size W3).alloc (Nat.le_refl _) (.cells #[.slice none 0 0, .int .i64 0, .bool false, .int .i64 0, .slice none 0 0] 35)
        have HBZ := Hid.intro' hbz
        clear hbz hb3 hrl hoy hby hpl hck hbd HB2 HN2 HC2 HW2 HFI HX h1 hr
        obtain ⟨pf, HPF⟩ : ∃ l, Hid (prf x = l) := ⟨_, Hid.intro' rfl⟩
        rw [HPF.out] at HY3 HCK HPN ⊢
        generalize x.marks.length = M
        go_wp2_with (refine wpList_storeG rfl _ _ rfl W3.heap.size rfl rfl HZ.out ?_)
        intro W4 hk4 hg4
        have hb4 := hk4.below HBZ.out HBZ.out.size (fun i hi e => by omega)
        have HB4 := Hid.intro' (below_class HB3.out hb4)
        have HN4 := Hid.intro' (HN3.out.below' hb4)
        have HL4 := Hid.intro' (HL3.out.below' hb4)
        have HCC := Hid.intro' (check_any s (fun _ => True) _ _ _ pf W4 (HC3.out.below' hb4) (HW3.out.below' hb4) (HY3.out.below' hb4) (by have := HPN.out; omega))
        have HG4 := Hid.intro' hg4
        clear hb4 hk4 hg4 HB3 HN3 HC3 HW3 HL3 HY3 HZ HBZ
        generalize W3.heap.size = rb at HG4 ⊢
        have c4 : W4.cell? ⟨rb, 4, none⟩ = some (.slice af pf.length kf) := HG4.out.cell 4
        go_wp2_with (refine wpList_load27g rfl _ rfl w.heap.size s.st _ _ rfl HN4.out ?_)
        clear c4
        refine HCC.out.mono ?_
        rintro e W5 ⟨hb5, vq, rfl, hrq⟩
        rw [HCK.out] at hrq ⊢
        dsimp only at hrq ⊢
        obtain ⟨aq, kq, rfl, _, _⟩ := hrq.form
        have HB5 := Hid.intro' (below_class HB4.out hb5)
        have HL5 := Hid.intro' (HL4.out.below' hb5)
        have HQ5 : Hid (RL (fun _ => True) W5 (.slice aq x.plan.length kq) x.plan) := hrq.mono fun _ _ _ _ => trivial
        have HG5 := Hid.intro' (HG4.out.below' hb5)
        have HZ := Hid.intro' (JB.new W5 false 0 (.slice none 0 0))
        have hbz := (Below.refl W5.heap.size W5).alloc (Nat.le_refl _) (.cells #[.bool false, .int .i64 0, .slice none 0 0] 43)
        have HBZ := Hid.intro' hbz
        clear hbz hb5 hrq HB4 HN4 HL4 HG4 HCC HCK
        generalize hco : x.cost = co at HG5 ⊢
        generalize hen : (!x.ended) = en at HG5 ⊢
        clear hco hen
        go_wp2_with (refine wpList_storeJ rfl _ _ rfl W5.heap.size rfl rfl HZ.out ?_)
        intro W6 hk6 hg6
        have hb6 := hk6.below HBZ.out HBZ.out.size (fun i hi e => by omega)
        have HB6 := Hid.intro' (below_class HB5.out hb6)
        have hG6 := HG5.out.below' hb6
        have HSM := Hid.intro' (psame_any _ _ _ _ x.plan W6 (HQ5.out.below' hb6) (HL5.out.below' hb6) (by have := HBD.out.2.1; omega) (fun l hl => by have := (HBD.out.2.2.1 l hl).1; omega))
        generalize W5.heap.size = cb at hg6 ⊢
        generalize x.plan.length = np at hg6 hG6 HSM ⊢
        have j0 : W6.cell? ⟨cb, 0, none⟩ = some (.bool en) := hg6.cell 0
        have j1 : W6.cell? ⟨cb, 1, none⟩ = some (.int .i64 co) := hg6.cell 1
        have j2 : W6.cell? ⟨cb, 2, none⟩ = some (.slice aq np kq) := hg6.cell 2
        have r0 : W6.cell? ⟨rb, 0, none⟩ = some (.slice ar np kr) := hG6.cell 0
        have r1 : W6.cell? ⟨rb, 1, none⟩ = some (.int .i64 co) := hG6.cell 1
        have r2 : W6.cell? ⟨rb, 2, none⟩ = some (.bool en) := hG6.cell 2
        clear hb6 hk6 hg6 hG6 HB5 HL5 HQ5 HG5 HZ HBZ HBD
        go_wp2_with fail
        refine HSM.out.mono ?_
        rintro e W7 ⟨rfl, hb7⟩
        have HB7 := Hid.intro' (below_class HB6.out hb7)
        clear hb7 HSM HB6
        go_wp2
        go_ret
        exact ⟨rfl, HB7.out⟩
      · have HFI : Hid (Calls Try.prog 11 #[.agg (nv s.st (.slice ac s.cs.length kc) (.slice aw s.ws.length kw)).toArray, .int .i64 a1] W2 fun e w' => e = .returned (.tuple #[.agg #[.slice none 0 0, .int .i64 0, .bool false, .int .i64 0, .slice none 0 0], .int .i64 1]) ∧ Below W2.heap.size W2 w') := by
          by_cases h1 : 1 ≤ a1
          · exact find_no HC2.out HW2.out (by
              cases hr : rgt s with
              | false => rfl
              | true => exact absurd ⟨hr, h1⟩ hyes) h1 (by omega)
          · exact find_arg (.inl (by omega))
        go_wp2_with (refine wpList_load27g rfl _ rfl w.heap.size s.st _ _ rfl HN2.out ?_)
        refine HFI.out.mono ?_
        rintro e W3 ⟨rfl, hb3⟩
        have HB3 := Hid.intro' (below_class HB2.out hb3)
        have HZ := Hid.intro' (GB.new W3 (.slice none 0 0) 0 false 0 (.slice none 0 0))
        have hbz := (Below.refl W3.heap.size W3).alloc (Nat.le_refl _) (.cells #[.slice none 0 0, .int .i64 0, .bool false, .int .i64 0, .slice none 0 0] 35)
        have HBZ := Hid.intro' hbz
        clear hb3 hbz HB2 HN2 HC2 HW2 HFI
        go_wp2_with (refine wpList_storeG rfl _ _ rfl W3.heap.size rfl rfl HZ.out ?_)
        intro W4 hk4 hg4
        have HB4 := Hid.intro' (below_class HB3.out (hk4.below HBZ.out HBZ.out.size (fun i hi e => by omega)))
        clear hk4 hg4 HB3 HZ HBZ
        go_wp2
        go_ret
        exact ⟨rfl, HB4.out⟩
end Go.Proofs.Ytagmidolcdefiah
