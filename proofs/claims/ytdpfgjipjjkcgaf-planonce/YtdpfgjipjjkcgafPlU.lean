/- All. -/
import Derived.Test.YtdpfgjipjjkcgafPlQ
namespace Go.Proofs.Ytdpfgjipjjkcgaf
open Go.RowKit Go.Shelf

theorem all_wrong (s : Sn) (D : Nat → Prop) (vc vw : Value) (w : World) (hc : R2 D w vc s.cs) (hw : R2 D w vw s.ws) (hr : rgt s = false) :
    Calls Try.prog 8 #[.agg (nv s.st vc vw).toArray] w fun e w' => e = .returned (.func (.func 16) #[] #[]) ∧ Below w.heap.size w w' := by
  have hbx := (Below.refl w.heap.size w).alloc (Nat.le_refl _) (.cells (nv s.st vc vw).toArray 27)
  have HR := Hid.intro' (snapRight_any s D vc vw _ (hc.below' hbx) (hw.below' hbx))
  rw [hr] at HR
  have HN := Hid.intro' (NB.new w s.st vc vw)
  have HB := Hid.intro' hbx
  clear hc hw hbx hr
  go_enter Try.func8, Try.ntmps8
  go_wp2_with (refine wpList_load27g rfl _ rfl w.heap.size s.st _ _ rfl HN.out ?_)
  refine HR.out.mono ?_
  rintro e W1 ⟨rfl, hb1⟩
  have HB1 := Hid.intro' (below_class HB.out hb1)
  clear hb1 HR HN HB
  go_wp2
  go_ret
  exact ⟨rfl, HB1.out⟩

theorem after1 {X W4 : World} (hb : Below X.heap.size X W4) (k i : Nat) (h : k < X.heap.size) : W4.cell? ⟨k, i, none⟩ = X.cell? ⟨k, i, none⟩ := hb.cell (p := ⟨k, i, none⟩) h
theorem after0 {X W4 : World} (hb : Below X.heap.size X W4) (k : Nat) (h : k < X.heap.size) : k < W4.heap.size := Nat.lt_of_lt_of_le h hb.size
theorem after2 {X W4 : World} (hb : Below X.heap.size X W4) (k i : Nat) (h : k < X.heap.size) : W4.frozen? ⟨k, i, none⟩ = X.frozen? ⟨k, i, none⟩ := World.frozen?_of_block (a := ⟨k, i, none⟩) (hb.block k h)

/-- what All hands back, whatever order was drawn -/
theorem fin_all {w W1 X W4 Wf : World} {c1 c2 n : Nat} {v' : Value} {ws : List (Int × Int)} (hB : Below w.heap.size w W1) (hA : Below W1.heap.size W1 X) (hb : Below X.heap.size X W4) (hr : R2 (fun g => X.heap.size ≤ g) W4 v' ws)
    (hK : Kp (fun k => W1.heap.size ≤ k ∧ k < X.heap.size) W4 Wf) (h1 : Wf.cell? ⟨c1, 0, none⟩ = some (.int .i64 (n : Int))) (h2 : Wf.cell? ⟨c2, 0, none⟩ = some v') (l1 : c1 < Wf.heap.size) (l2 : c2 < Wf.heap.size) :
    ∃ d1 d2 vw', Ending.returned (.func (.func 18) #[] #[.pointer (some ⟨c1, 0, none⟩), .pointer (some ⟨c2, 0, none⟩)]) = .returned (.func (.func 18) #[] #[.pointer (some ⟨d1, 0, none⟩), .pointer (some ⟨d2, 0, none⟩)]) ∧ Wf.cell? ⟨d1, 0, none⟩ = some (.int .i64 (n : Int)) ∧
      Wf.cell? ⟨d2, 0, none⟩ = some vw' ∧ d1 < Wf.heap.size ∧ d2 < Wf.heap.size ∧ R2 (fun g => w.heap.size ≤ g ∧ g < Wf.heap.size) Wf vw' ws ∧ Below w.heap.size w Wf := by
  have b1 := below_class (below_class hB hA) hb
  have hs := hA.size
  have hs2 := hB.size
  refine ⟨c1, c2, v', rfl, h1, h2, l1, l2, ?_, hK.below b1 (Nat.le_trans (Nat.le_trans hs2 hs) hb.size) (fun i hi hf => by omega)⟩
  refine (hr.keep hK.size fun g hg hlt => hK.block g hlt (fun hf => by have : X.heap.size ≤ g := hg; omega)).mono fun g hg hlt _ => ?_
  have : X.heap.size ≤ g := hg
  exact ⟨by omega, hlt⟩

set_option maxHeartbeats 8000000 in
theorem all_right (s : Sn) (D : Nat → Prop) (vc vw : Value) (w : World) (hc : R2 D w vc s.cs) (hw : R2 D w vw s.ws) (hr : rgt s = true) (n : Nat) (hcl : s.cs.length = n) (hwl : s.ws.length ≤ 1000) :
    Calls Try.prog 8 #[.agg (nv s.st vc vw).toArray] w fun e w' => ∃ c1 c2 vw', e = .returned (.func (.func 18) #[] #[.pointer (some ⟨c1, 0, none⟩), .pointer (some ⟨c2, 0, none⟩)]) ∧ w'.cell? ⟨c1, 0, none⟩ = some (.int .i64 (n : Int)) ∧
      w'.cell? ⟨c2, 0, none⟩ = some vw' ∧ c1 < w'.heap.size ∧ c2 < w'.heap.size ∧ R2 (fun g => w.heap.size ≤ g ∧ g < w'.heap.size) w' vw' s.ws ∧ Below w.heap.size w w' := by
  have hbx := (Below.refl w.heap.size w).alloc (Nat.le_refl _) (.cells (nv s.st vc vw).toArray 27)
  have HR := Hid.intro' (snapRight_any s D vc vw _ (hc.below' hbx) (hw.below' hbx))
  rw [hr] at HR
  have HN := Hid.intro' (NB.new w s.st vc vw)
  have HB := Hid.intro' hbx
  have HW := Hid.intro' hw
  have hmf : ∀ (fn : Fn) (first cap : Array Value) (w : World), (Instr.makeFunc fn first cap).run Try.prog w = .ok (.func fn first cap) w := fun _ _ _ _ => rfl
  obtain ⟨ac, kc, rfl, _, _⟩ := hc.form
  obtain ⟨aw, kw, rfl, _, _⟩ := hw.form
  rw [hcl] at HR HN HB
  rw [hcl]
  clear hc hw hbx hr hcl
  go_enter Try.func8, Try.ntmps8
  go_wp2_with (refine wpList_load27g rfl _ rfl w.heap.size s.st _ _ rfl HN.out ?_)
  refine HR.out.mono ?_
  rintro e W1 ⟨rfl, hb1⟩
  have HB1 := Hid.intro' (below_class HB.out hb1)
  have HN1 := Hid.intro' (HN.out.below' hb1)
  clear hb1 HR HN HB
  have HW1 := Hid.intro' ((HW.out.below' HB1.out).below' (Below.refl _ _).drew)
  have c13 : W1.cell? ⟨w.heap.size, 13, none⟩ = some (.slice ac n kc) := HN1.out.cell 13
  have c14 : W1.cell? ⟨w.heap.size, 14, none⟩ = some (.slice aw s.ws.length kw) := HN1.out.cell 14
  have hlt := HN1.out.lt
  go_wp2_with fail
  go_region_with ((go_at_call 17; refine (cloneW_any D _ s.ws _ ?hq hwl).mono ?_; (case hq => first | exact HW1.out | exact HW1.out.alloc _ | exact (HW1.out.alloc _).alloc _); rintro e W4 ⟨v', rfl, hr4, hb4⟩; obtain ⟨a4, k4, rfl, _, _⟩ := hr4.form; have hz7 := after0 hb4 w.heap.size (by first | exact hlt | (simp; omega)); have d13 : W4.cell? ⟨w.heap.size, 13, none⟩ = some (.slice ac n kc) := (hb4.cell (p := ⟨w.heap.size, 13, none⟩) (by first | exact hlt | (simp; omega))).trans (by first | exact c13 | exact (Below.cell ((Below.refl _ W1).alloc (Nat.le_refl _) _) (p := ⟨w.heap.size, 13, none⟩) hlt).trans c13 | exact (Below.cell (((Below.refl _ W1).alloc (Nat.le_refl _) _).alloc (by simp) _) (p := ⟨w.heap.size, 13, none⟩) hlt).trans c13); have hq4 := after1 hb4; have hf4 := after2 hb4; have hz4 := after0 hb4))
  all_goals
    have HR4 := Hid.intro' hr4
    have HB4 := Hid.intro' hb4
    clear hr4 hb4 d13 c13 c14
    go_wp2
    refine bodyPost_ret (results_tmp rfl _ _ _) rfl ?_
    have hsz := HB4.out.size
    simp only [World.size_alloc, World.size_drew] at hsz
    refine fin_all HB1.out ?hA HB4.out HR4.out ?hK ?h1 ?h2 ?l1 ?l2
    case hA => first | exact (Below.refl _ W1).drew | exact ((Below.refl _ W1).alloc (Nat.le_refl _) _).drew | exact (((Below.refl _ W1).alloc (Nat.le_refl _) _).alloc (by simp) _).drew
    case hK => repeat first | exact Kp.refl _ _ | refine Kp.set ?_ _ _ _ (fun h => (by constructor <;> first | omega | (simp <;> omega))) | refine Kp.alloc ?_ _ | refine Kp.drew ?_
    case h1 => have z2 : W1.heap.size < W1.heap.size + 1 + 1 := (by omega); have e1 := hq4 W1.heap.size 0; have e2 := hq4 (W1.heap.size + 1) 0; simp [z2] at e1 e2; go_simp
    case h2 => have z2 : W1.heap.size < W1.heap.size + 1 + 1 := (by omega); have e1 := hq4 W1.heap.size 0; have e2 := hq4 (W1.heap.size + 1) 0; simp [z2] at e1 e2; go_simp
    case l1 => first | omega | (simp [World.setCell] <;> omega)
    case l2 => first | omega | (simp [World.setCell] <;> omega)

end Go.Proofs.Ytdpfgjipjjkcgaf
