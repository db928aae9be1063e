/- The example that each law on checks begins with. -/
import Derived.Test.YtagmidolcdefiahCkL
import Derived.Test.YtagmidolcdefiahPk12
namespace Go.Proofs.Ytagmidolcdefiah
open Go.RowKit Go.Shelf
theorem exn_ckw : ckw exNn [1, 0, 0, 0, 0, 0, 0, 0, 0, 0, 2] = (0, ⟨true, 0, [[]]⟩) := by
  have hf := fnd_ok exn_rgt 1
  have hm := mrk_find exn_rgt (B := 1) (by rw [exn_fnd])
  rw [exn_fnd] at hf hm
  have h := ckw_hdb (s := exNn) (e := false) (c := 0) (p := [[]]) exn_rgt hf.fe hf.co (by decide) (by decide) [2] (fun e => by cases e)
  rw [hm, if_neg (by simp)] at h
  exact h
theorem exn_nil : ckw exNn [] = (3, clm0) := by
  unfold ckw
  rw [if_pos exn_rgt]
  rfl
set_option maxRecDepth 100000 in
set_option maxHeartbeats 4000000 in
theorem speaks13_any (w : World) : Calls Try.prog 12 #[] w fun e w' => e = .returned (.bool true) ∧ Below w.heap.size w w' := by
  go_enter Try.func12, Try.ntmps12
  go_wp2_with fail
  have hX0 : Below w.heap.size w ((w.alloc (.cells #[.int .i64 0, .int .i64 4] 40)).alloc (.cells (nv exSt (.slice (some ⟨w.heap.size, 0, none⟩) 1 1) (.slice none 0 0)).toArray 27)) := ((Below.refl _ w).alloc (Nat.le_refl _) _).alloc (by simp) _
  have hc0 : R2 (fun _ => True) ((w.alloc (.cells #[.int .i64 0, .int .i64 4] 40)).alloc (.cells (nv exSt (.slice (some ⟨w.heap.size, 0, none⟩) 1 1) (.slice none 0 0)).toArray 27)) (.slice (some ⟨w.heap.size, 0, none⟩) 1 1) exNn.cs := R2.lit1 _ _ _ _ (0, 4) trivial (by simp; omega) (Nat.le_refl _) (by go_simp) (by go_simp)
  have hw0 : R2 (fun _ => True) ((w.alloc (.cells #[.int .i64 0, .int .i64 4] 40)).alloc (.cells (nv exSt (.slice (some ⟨w.heap.size, 0, none⟩) 1 1) (.slice none 0 0)).toArray 27)) (.slice none 0 0) exNn.ws := ⟨none, 0, rfl, Nat.le_refl _, fun _ => rfl, .inl rfl⟩
  have hn0 : NB ((w.alloc (.cells #[.int .i64 0, .int .i64 4] 40)).alloc (.cells (nv exSt (.slice (some ⟨w.heap.size, 0, none⟩) 1 1) (.slice none 0 0)).toArray 27)) (w.heap.size + 1) exSt (.slice (some ⟨w.heap.size, 0, none⟩) 1 1) (.slice none 0 0) := by
    have h1 := NB.new (w.alloc (.cells #[.int .i64 0, .int .i64 4] 40)) exSt (.slice (some ⟨w.heap.size, 0, none⟩) 1 1) (.slice none 0 0)
    rwa [World.size_alloc] at h1
  have hsz : ((w.alloc (.cells #[.int .i64 0, .int .i64 4] 40)).alloc (.cells (nv exSt (.slice (some ⟨w.heap.size, 0, none⟩) 1 1) (.slice none 0 0)).toArray 27)).heap.size = w.heap.size + 1 + 1 := by simp
  change Calls Try.prog _ _ (((w.alloc (.cells #[.int .i64 0, .int .i64 4] 40)).alloc (.cells (nv exSt (.slice (some ⟨w.heap.size, 0, none⟩) 1 1) (.slice none 0 0)).toArray 27)).alloc _) _
  generalize (w.alloc (.cells #[.int .i64 0, .int .i64 4] 40)).alloc (.cells (nv exSt (.slice (some ⟨w.heap.size, 0, none⟩) 1 1) (.slice none 0 0)).toArray 27) = X0 at hX0 hc0 hw0 hn0 hsz ⊢
  have hby := (Below.refl X0.heap.size X0).alloc (Nat.le_refl _) (.cells (yc [1, 0, 0, 0, 0, 0, 0, 0, 0, 0, 2]).toArray 5)
  have hoy : OY (X0.alloc (.cells (yc [1, 0, 0, 0, 0, 0, 0, 0, 0, 0, 2]).toArray 5)) 0 (.slice (some ⟨X0.heap.size, 0, none⟩) 11 11) [1, 0, 0, 0, 0, 0, 0, 0, 0, 0, 2] := OY.lit (B := 0) X0 [1, 0, 0, 0, 0, 0, 0, 0, 0, 0, 2] (Nat.zero_le _) (by unfold maxLen; simp)
  have hry : RY (fun _ => True) (X0.alloc (.cells (yc [1, 0, 0, 0, 0, 0, 0, 0, 0, 0, 2]).toArray 5)) (.slice (some ⟨w.heap.size + 1 + 1, 0, none⟩) 11 11) [1, 0, 0, 0, 0, 0, 0, 0, 0, 0, 2] := by
    rw [← hsz]
    exact hoy.ry (fun y hy => by simp at hy; omega) fun _ _ => trivial
  have hX := below_class hX0 hby
  have hc := hc0.below' hby
  have hw := hw0.below' hby
  have hn := hn0.below' hby
  clear hX0 hc0 hw0 hn0 hby hoy hsz
  refine (check_any exNn (fun _ => True) _ _ _ [1, 0, 0, 0, 0, 0, 0, 0, 0, 0, 2] _ hc hw hry (by simp)).mono ?_
  rintro e W2 ⟨hb2, vp, rfl, hrl⟩
  rw [exn_ckw] at hrl ⊢
  obtain ⟨ap, kp, rfl, _, _⟩ := hrl.form
  have HB2 := Hid.intro' (below_class hX hb2)
  have HN2 := Hid.intro' (hn.below' hb2)
  have HC2 := Hid.intro' (hc.below' hb2)
  have HW2 := Hid.intro' (hw.below' hb2)
  clear hX hc hw hn hb2 hrl hry
  dsimp only
  generalize Value.slice (some ⟨w.heap.size, 0, none⟩) 1 1 = vc at HN2 HC2 ⊢
  have HZ := Hid.intro' (JB.new W2 false 0 (.slice none 0 0))
  have HSZ : Hid (w.heap.size ≤ W2.heap.size) := HB2.out.size
  go_wp2_with (refine wpList_storeJ rfl _ _ rfl W2.heap.size rfl rfl HZ.out ?_)
  intro W3 hk3 hg3
  have hb3 : Below W2.heap.size W2 W3 := hk3.below ((Below.refl W2.heap.size W2).alloc (Nat.le_refl _) _) (by simp) (fun i hi e => by omega)
  have HB3 := Hid.intro' (below_class HB2.out hb3)
  have HN3 := Hid.intro' (HN2.out.below' hb3)
  have HC3 := Hid.intro' (HC2.out.below' hb3)
  have HW3 := Hid.intro' (HW2.out.below' hb3)
  have HG3 := Hid.intro' hg3
  clear hk3 hb3 hg3 HZ HB2 HN2 HC2 HW2
  generalize W2.heap.size = rb at HG3 ⊢
  go_wp2_with (refine wpList_load27g rfl _ rfl (w.heap.size + 1) exSt _ _ rfl HN3.out ?_)
  refine (check_any exNn (fun _ => True) _ _ _ [] W3 HC3.out HW3.out (RY.nil _ _) (by simp)).mono ?_
  rintro e W4 ⟨hb4, vq, rfl, hrq⟩
  rw [exn_nil] at hrq ⊢
  obtain ⟨aq, kq, rfl, _, _⟩ := hrq.form
  have HB4 := Hid.intro' (below_class HB3.out hb4)
  have HG4 := Hid.intro' (HG3.out.below' hb4)
  clear hb4 hrq HB3 HN3 HC3 HW3 HG3
  dsimp only [clm0]
  have HZ := Hid.intro' (JB.new W4 false 0 (.slice none 0 0))
  go_wp2_with (refine wpList_storeJ rfl _ _ rfl W4.heap.size rfl rfl HZ.out ?_)
  intro W5 hk5 hg5
  have hb5 : Below W4.heap.size W4 W5 := hk5.below ((Below.refl W4.heap.size W4).alloc (Nat.le_refl _) _) (by simp) (fun i hi e => by omega)
  have HB5 := Hid.intro' (below_class HB4.out hb5)
  have hG5 := HG4.out.below' hb5
  have c0 : W5.cell? ⟨rb, 0, none⟩ = some (.bool true) := hG5.cell 0
  have c1 : W5.cell? ⟨rb, 1, none⟩ = some (.int .i64 0) := hG5.cell 1
  have c2 : W5.cell? ⟨rb, 2, none⟩ = some (.slice ap 1 kp) := hG5.cell 2
  clear hk5 hg5 hb5 hG5 HZ HB4 HG4
  go_wp2
  go_ret
  exact ⟨rfl, HB5.out⟩
end Go.Proofs.Ytagmidolcdefiah
