/- Bound, as the program and as the document's answer reckon it. -/
import Derived.Test.YtdkhobhffdgliabSiteS
namespace Go.Proofs.Ytdkhobhffdgliab
open Go.RowKit
attribute [local go_sem ↓] Go.wp_at_zero Go.wp_at_succ

/-- all cells of a site -/
theorem SB.all {W : World} {B : Nat} {s : St} (h : SB W B s) : SB W B s ∧ W.cell? ⟨B, 0, none⟩ = some (.int .i64 s.fl) ∧ W.cell? ⟨B, 1, none⟩ = some (.int .i64 s.ca) ∧ W.cell? ⟨B, 2, none⟩ = some (.int .i64 s.sta) ∧ W.cell? ⟨B, 3, none⟩ = some (.int .i64 s.ste) ∧ W.cell? ⟨B, 4, none⟩ = some (.int .i64 s.sto) ∧ W.cell? ⟨B, 5, none⟩ = some (.int .i64 s.opn) ∧ W.cell? ⟨B, 6, none⟩ = some (.int .i64 s.wai) ∧ W.cell? ⟨B, 7, none⟩ = some (.int .i64 s.clo) ∧ W.cell? ⟨B, 8, none⟩ = some (.int .i64 s.nud) ∧ W.cell? ⟨B, 9, none⟩ = some (.int .i64 s.age) ∧ W.cell? ⟨B, 10, none⟩ = some (.int .i64 s.sil) ∧ W.cell? ⟨B, 11, none⟩ = some (.int .i64 s.bud) ∧ W.cell? ⟨B, 12, none⟩ = some (.int .i64 s.per) :=
  ⟨h, h.cell 0, h.cell 1, h.cell 2, h.cell 3, h.cell 4, h.cell 5, h.cell 6, h.cell 7, h.cell 8, h.cell 9, h.cell 10, h.cell 11, h.cell 12⟩

set_option maxHeartbeats 2000000 in
theorem bound_any (s : St) (r : SM.Rt s) (h : Int) (w : World) :
    Calls Try.prog 14 #[.agg (sv s).toArray, .int .i64 h] w fun e w' => e = .returned (.int .i64 (SM.bou s h)) ∧ Below w.heap.size w w' := by
  have n0 := SB.new w s
  have HB : Hid (Below w.heap.size w (w.alloc (.cells (sv s).toArray 23))) := Hid.intro' ((Below.refl _ w).alloc (Nat.le_refl _) _)
  have HN := Hid.intro' n0
  have R := Hid.intro' r
  have HQ := Hid.intro' (SM.bou_sum r h)
  clear n0 r
  go_enter Try.func14, Try.ntmps14
  go_wp2
  generalize (w.alloc (Obj.cells (sv s).toArray 23)) = W1 at HN HB ⊢
  obtain ⟨B, hB⟩ : ∃ B, w.heap.size = B := ⟨_, rfl⟩
  rw [hB] at HN
  rw [show Value.pointer (some ⟨w.heap.size, 0, none⟩) = Value.pointer (some ⟨B, 0, none⟩) by rw [hB]]
  have hsb := HN.out
  clear HN
  go_region_held3 (fun w' => SB w' B s ∧ w'.cell? ⟨B, 0, none⟩ = some (.int .i64 s.fl) ∧ w'.cell? ⟨B, 1, none⟩ = some (.int .i64 s.ca) ∧ w'.cell? ⟨B, 2, none⟩ = some (.int .i64 s.sta) ∧ w'.cell? ⟨B, 3, none⟩ = some (.int .i64 s.ste) ∧ w'.cell? ⟨B, 4, none⟩ = some (.int .i64 s.sto) ∧ w'.cell? ⟨B, 5, none⟩ = some (.int .i64 s.opn) ∧ w'.cell? ⟨B, 6, none⟩ = some (.int .i64 s.wai) ∧ w'.cell? ⟨B, 7, none⟩ = some (.int .i64 s.clo) ∧ w'.cell? ⟨B, 8, none⟩ = some (.int .i64 s.nud) ∧ w'.cell? ⟨B, 9, none⟩ = some (.int .i64 s.age) ∧ w'.cell? ⟨B, 10, none⟩ = some (.int .i64 s.sil) ∧ w'.cell? ⟨B, 11, none⟩ = some (.int .i64 s.bud) ∧ w'.cell? ⟨B, 12, none⟩ = some (.int .i64 s.per)) (first | exact SB.all (SB.drew hsb) | exact SB.all (SB.below' (SB.drew hsb) hb2) | exact SB.all (SB.alloc (SB.below' (SB.drew hsb) hb2) _)) (first | (go_at_call 12; refine (service_any s R.out _ _).mono ?_; rintro e W2 ⟨rfl, hb2⟩) | (go_at_call 18; refine (mul_any _ _ _).mono ?_; rintro e w' ⟨rfl, rfl⟩) | (go_at_call 17; refine (sum3 _ _ _ _ _ _ (new_at _ _ _ rfl)).mono ?_; rintro e w' ⟨rfl, rfl⟩))
  rename_i hheld
  clear hheld hsb
  have b2 := Hid.intro' (below_class HB.out.drew hb2)
  clear hb2
  go_wp2
  go_ret
  exact ⟨ret_int HQ.out, b2.out.alloc b2.out.size _⟩

set_option maxHeartbeats 2000000 in
theorem rbound_any (s : St) (r : SM.Rt s) (h : Int) (w : World) :
    Calls Try.prog 15 #[.agg (sv s).toArray, .int .i64 h] w fun e w' => e = .returned (.int .i64 (SM.bou s h)) ∧ Below w.heap.size w w' := by
  have n0 := SB.new w s
  have HB : Hid (Below w.heap.size w (w.alloc (.cells (sv s).toArray 23))) := Hid.intro' ((Below.refl _ w).alloc (Nat.le_refl _) _)
  have HN := Hid.intro' n0
  have R := Hid.intro' r
  obtain ⟨z1, z2⟩ := SM.ser_bd r h
  have a1 := r.age1
  have a2 := r.age2
  have a3 := r.per1
  have a4 := r.per2
  have HQ := Hid.intro' (show SM.bou s h = s.age + 130 * SM.ser s h + s.per from rfl)
  clear n0 r
  go_enter Try.func15, Try.ntmps15
  go_wp2
  generalize (w.alloc (Obj.cells (sv s).toArray 23)) = W1 at HN HB ⊢
  obtain ⟨B, hB⟩ : ∃ B, w.heap.size = B := ⟨_, rfl⟩
  rw [hB] at HN
  rw [show Value.pointer (some ⟨w.heap.size, 0, none⟩) = Value.pointer (some ⟨B, 0, none⟩) by rw [hB]]
  have hs : ∀ w', Below W1.heap.size W1 w' → SB w' B s := fun w' hb => HN.out.below' hb
  have hc9 : ∀ w', Below W1.heap.size W1 w' → w'.cell? ⟨B, 9, none⟩ = some (.int .i64 s.age) := fun w' hb => (hs w' hb).c9
  have hc12 : ∀ w', Below W1.heap.size W1 w' → w'.cell? ⟨B, 12, none⟩ = some (.int .i64 s.per) := fun w' hb => (hs w' hb).c12
  refine wp_region_quiet (C := fun w' => Below W1.heap.size W1 w') (by kernel_rfl) (by kernel_rfl) ((Below.refl _ W1).drew) ?_
  simp only []
  refine wpQuiet_step (fun K hK => ?_)
  go_simp
  refine ⟨_, fun _ _ => rfl, hK _ ?_⟩
  clear hK K
  refine wpQuiet_load3 _ _ _ _ rfl rfl rfl hc9 ?_
  refine wpQuiet_load23 _ B s rfl rfl rfl hs ?_
  refine wpQuiet_step (fun K hK => ?_)
  go_simp
  refine ⟨_, fun _ _ => rfl, hK _ ?_⟩
  clear hK K
  refine wpQuiet_step (fun K hK => ?_)
  go_simp
  refine ⟨_, fun w' hw => (rservice_any s R.out _ w').mono fun e w'' hh => ⟨hh.1, below_class hw hh.2⟩, hK _ ?_⟩
  clear hK K
  refine wpQuiet_step (fun K hK => ?_)
  go_simp
  refine ⟨_, fun _ _ => rfl, hK _ ?_⟩
  clear hK K
  refine wpQuiet_step (fun K hK => ?_)
  go_simp
  refine ⟨_, fun _ _ => rfl, hK _ ?_⟩
  clear hK K
  refine wpQuiet_step (fun K hK => ?_)
  go_simp
  refine ⟨_, fun _ _ => rfl, hK _ ?_⟩
  clear hK K
  refine wpQuiet_load3 _ _ _ _ rfl rfl rfl hc12 ?_
  refine wpQuiet_step (fun K hK => ?_)
  go_simp
  refine ⟨_, fun _ _ => rfl, hK _ ?_⟩
  clear hK K
  refine wpQuiet_step (fun K hK => ?_)
  go_simp
  refine ⟨_, fun _ _ => rfl, hK _ ?_⟩
  clear hK K
  refine wpQuiet_nil ?_
  intro W2 hb2
  have b2 := Hid.intro' (HB.out.trans (hb2.mono HB.out.size))
  clear hb2 hs hc9 hc12
  go_wp2
  go_ret
  exact ⟨ret_int (by rw [IntWalk.i64_in (130 * SM.ser s h) ⟨by omega, by omega⟩, IntWalk.i64_in (s.age + 130 * SM.ser s h) ⟨by omega, by omega⟩, IntWalk.i64_in _ ⟨by omega, by omega⟩]; exact HQ.out.symm), b2.out⟩

end Go.Proofs.Ytdkhobhffdgliab
