/- A tick of a door, as the program has it. -/
import Derived.Test.YtjcccdlhdffbdacDoorB
namespace Go.Proofs.Ytjcccdlhdffbdac
open Go.RowKit

theorem shB_z : shB 0 0 0 false = true := rfl
theorem shB_n {p l r : Int} {h : Bool} (hp : p ≠ 0) : shB p l r h = false := by unfold shB; simp [hp]
theorem isShut_t (w : World) : Calls Try.prog 23 #[.agg #[.int .i64 0, .int .i64 0, .int .i64 0, .bool false]] w fun e w' => e = .returned (.bool true) ∧ Below w.heap.size w w' := isShut_any 0 0 0 false w
theorem isShut_f (p l r : Int) (h : Bool) (hp : p ≠ 0) (w : World) : Calls Try.prog 23 #[.agg #[.int .i64 p, .int .i64 l, .int .i64 r, .bool h]] w fun e w' => e = .returned (.bool false) ∧ Below w.heap.size w w' := by
  have := isShut_any p l r h w
  rwa [shB_n hp] at this

set_option maxHeartbeats 1000000 in
theorem step_shut (s : St) (o b : Bool) (w : World) :
    Calls Try.prog 11 #[.agg (sv s).toArray, .agg #[.int .i64 0, .int .i64 0, .int .i64 0, .bool false], .bool o, .bool b] w fun e w' => e = .returned (dv (DM.step s DM.z o b)) ∧ Below w.heap.size w w' := by
  go_enter Try.func11, Try.ntmps11
  go_wp2_with fail
  refine (calls_keep (bs := w.heap.size) (bd := w.heap.size + 1) (be := w.heap.size + 1 + 1) (isShut_t _) ((((Below.refl _ w).alloc (Nat.le_refl _) _).alloc (by simp) _).alloc (by simp; omega) _) (((SB.new w s).alloc _).alloc _) ((DB.new' _ 0 0 0 false (by simp)).alloc _) (DB.new' _ 0 0 0 false (by simp))).mono ?_
  rintro e W1 ⟨rfl, hB, hs, hd, he⟩
  have HB := Hid.intro' hB
  have HS := Hid.intro' hs
  have HD := Hid.intro' hd
  have HE := Hid.intro' he
  have a0 := hd.c0; have a1 := hd.c1; have a2 := hd.c2; have a3 := hd.c3
  have b0 := he.c0; have b1 := he.c1; have b2 := he.c2; have b3 := he.c3
  have g0 := he.fr 0; have g1 := he.fr 1; have g2 := he.fr 2; have g3 := he.fr 3
  clear hB hs hd he
  go_wp2_with (refine wpList_load23 rfl _ rfl w.heap.size s rfl HS.out ?_)
  · clear a0 a1 a2 a3 b0 b1 b2 b3 g0 g1 g2 g3
    refine (calls_keep (enter_any s 0 0 0 1 false _) HB.out HS.out HD.out HE.out).mono ?_
    rintro e W9 ⟨rfl, hB, _, _, he⟩
    have HB9 := Hid.intro' hB
    have b0 := he.c0; have b1 := he.c1; have b2 := he.c2; have b3 := he.c3
    have g0 := he.fr 0; have g1 := he.fr 1; have g2 := he.fr 2; have g3 := he.fr 3
    clear hB he
    go_wp2
    refine bodyPost_ret (by simp [results, Try.results11, go_sem, b0, b1, b2, b3]; rfl) rfl ?_
    refine ⟨?_, ?_⟩
    · unfold dv DM.step DM.en DM.z; simp_all
    · repeat refine below_set ?_ (by omega)
      exact HB9.out
  · refine bodyPost_ret (by simp [results, Try.results11, go_sem, b0, b1, b2, b3]; rfl) rfl ?_
    refine ⟨?_, ?_⟩
    · unfold dv DM.step DM.z; simp_all
    · repeat refine below_set ?_ (by omega)
      exact HB.out

set_option maxHeartbeats 2000000 in
theorem step_open (s : St) (p l r : Int) (h o b : Bool) (p1 : 1 ≤ p) (l1 : 1 ≤ l) (l2 : l ≤ 1000) (r1 : 0 ≤ r) (r2 : r ≤ 10) (w : World) :
    Calls Try.prog 11 #[.agg (sv s).toArray, .agg #[.int .i64 p, .int .i64 l, .int .i64 r, .bool h], .bool o, .bool b] w fun e w' => e = .returned (dv (DM.on s (DM.hd s ⟨p, l, r, h⟩ b))) ∧ Below w.heap.size w w' := by
  go_enter Try.func11, Try.ntmps11
  go_wp2_with fail
  refine (calls_keep (bs := w.heap.size) (bd := w.heap.size + 1) (be := w.heap.size + 1 + 1) (isShut_f p l r h (by omega) _) ((((Below.refl _ w).alloc (Nat.le_refl _) _).alloc (by simp) _).alloc (by simp; omega) _) (((SB.new w s).alloc _).alloc _) ((DB.new' _ p l r h (by simp)).alloc _) (DB.new' _ 0 0 0 false (by simp))).mono ?_
  rintro e W1 ⟨rfl, hB, hs, hd, he⟩
  have HB := Hid.intro' hB
  have HS := Hid.intro' hs
  have HD := Hid.intro' hd
  have HE := Hid.intro' he
  have a0 := hd.c0; have a1 := hd.c1; have a2 := hd.c2; have a3 := hd.c3
  clear hB hs hd he
  go_wp2_with (refine wpList_load23 rfl _ rfl w.heap.size s rfl HS.out ?_)
  clear a0 a1 a2 a3
  refine (calls_keep (hold_any s p l r h b r1 r2 _) HB.out HS.out HD.out HE.out).mono ?_
  rintro e W2 ⟨rfl, hB, hs, hd, he⟩
  clear HB HS HD HE
  have hl' : (DM.hd s ⟨p, l, r, h⟩ b).le = l := by unfold DM.hd; split <;> (try split) <;> rfl
  generalize hgen : DM.hd s ⟨p, l, r, h⟩ b = d' at hl' ⊢
  obtain ⟨p', l', r', h'⟩ := d'
  obtain rfl : l' = l := hl'
  have HG := Hid.intro' hgen
  clear hgen
  have HB := Hid.intro' hB
  have HS := Hid.intro' hs
  have HE := Hid.intro' he
  have HD := Hid.intro' hd
  clear hB hs hd he
  simp only [dv]
  go_wp2_with (refine wpList_storeD rfl _ _ rfl _ rfl rfl HD.out ?_)
  intro W3 hu hd
  have HB3 := Hid.intro' (hu.below HB.out (by omega))
  have HS3 := Hid.intro' (hu.sb HS.out (by omega))
  have HE3 := Hid.intro' (hu.db HE.out (by omega))
  have HD3 := Hid.intro' hd
  clear hu hd HB HS HE HD
  have a0 := HD3.out.c0; have a1 := HD3.out.c1; have a2 := HD3.out.c2; have a3 := HD3.out.c3
  cases h'
  · go_wp2_with (refine wpList_load23 rfl _ rfl w.heap.size s rfl HS3.out ?_)
    · clear a0 a1 a2 a3
      refine (calls_keep (pass_any s p' l' r' false l1 l2 _) HB3.out HS3.out HD3.out HE3.out).mono ?_
      rintro e W9 ⟨rfl, hB, _, _, he⟩
      have HB9 := Hid.intro' hB
      have HE9 := Hid.intro' he
      clear hB he
      simp only [dv]
      go_wp2_with (refine wpList_storeD rfl _ _ rfl _ rfl rfl HE9.out ?_)
      intro W8 hu hd
      go_wp2
      refine bodyPost_ret (retD Try.results11 rfl hd) rfl ⟨?_, hu.below HB9.out (by omega)⟩
      rw [HG.out]
      unfold DM.on
      simp [dv]
  · go_wp2_with (refine wpList_load23 rfl _ rfl w.heap.size s rfl HS3.out ?_)
    · clear a0 a1 a2 a3
      refine (calls_keep (enter_any s p' l' r' 2 true _) HB3.out HS3.out HD3.out HE3.out).mono ?_
      rintro e W9 ⟨rfl, hB, _, _, he⟩
      have HB9 := Hid.intro' hB
      have HE9 := Hid.intro' he
      clear hB he
      go_wp2_with (refine wpList_storeD rfl _ _ rfl _ rfl rfl HE9.out ?_)
      intro W8 hu hd
      go_wp2
      refine bodyPost_ret (retD Try.results11 rfl hd) rfl ⟨?_, hu.below HB9.out (by omega)⟩
      rw [HG.out]
      unfold DM.on DM.en
      simp_all [dv]
    · clear a0 a1 a2 a3
      refine (calls_keep (enter_any s p' l' r' 1 true _) HB3.out HS3.out HD3.out HE3.out).mono ?_
      rintro e W9 ⟨rfl, hB, _, _, he⟩
      have HB9 := Hid.intro' hB
      have HE9 := Hid.intro' he
      clear hB he
      go_wp2_with (refine wpList_storeD rfl _ _ rfl _ rfl rfl HE9.out ?_)
      intro W8 hu hd
      go_wp2
      refine bodyPost_ret (retD Try.results11 rfl hd) rfl ⟨?_, hu.below HB9.out (by omega)⟩
      rw [HG.out]
      unfold DM.on DM.en
      simp_all [dv]
    · clear a0 a1 a2 a3
      refine (calls_keep (pass_any s p' l' r' true l1 l2 _) HB3.out HS3.out HD3.out HE3.out).mono ?_
      rintro e W9 ⟨rfl, hB, _, _, he⟩
      have HB9 := Hid.intro' hB
      have HE9 := Hid.intro' he
      clear hB he
      simp only [dv]
      go_wp2_with (refine wpList_storeD rfl _ _ rfl _ rfl rfl HE9.out ?_)
      intro W8 hu hd
      go_wp2
      refine bodyPost_ret (retD Try.results11 rfl hd) rfl ⟨?_, hu.below HB9.out (by omega)⟩
      rw [HG.out]
      unfold DM.on
      simp_all [dv]

/-- a tick of a right door -/
theorem step_any (s : St) (R : SM.Rt s) (d : Dr) (hd : DM.Rd s d) (o b : Bool) (w : World) :
    Calls Try.prog 11 #[.agg (sv s).toArray, dv d, .bool o, .bool b] w fun e w' => e = .returned (dv (DM.step s d o b)) ∧ Below w.heap.size w w' := by
  rcases hd with rfl | hd
  · exact step_shut s o b w
  · have e : DM.step s d o b = DM.on s (DM.hd s d b) := by unfold DM.step; rw [if_neg (by have := hd.p1; omega)]
    rw [e]
    exact step_open s d.ph d.le d.ru d.he o b hd.p1 hd.l1 (hd.le1000 R) hd.r1 (Int.le_trans hd.r2 R.nud2) w

end Go.Proofs.Ytjcccdlhdffbdac
