/- How far floors lie apart, and how wants are held against one another by that. -/
import Derived.Test.YtdfdkddjkhcgdaiStI
import Derived.Test.YtdfdkddjkhcgdaiRuF
namespace Go.Proofs.Ytdfdkddjkhcgdai
open Go.RowKit Go.Shelf

set_option maxHeartbeats 1000000 in
theorem isnan_any (x : Int) (w : World) : Calls Try.prog 30 #[.int .i64 x] w fun e w' => e = .returned (.bool false) ∧ w' = w := by
  have h1 : (x != x) = false := by simp
  go_enter Try.func30, Try.ntmps30
  go_wp2
  go_ret
  exact ⟨rfl, rfl⟩
set_option maxHeartbeats 2000000 in
theorem compare_any (x y : Int) (w : World) : Calls Try.prog 19 #[.int .i64 x, .int .i64 y] w fun e w' => e = .returned (.int .i64 (cm3 x y)) ∧ Below w.heap.size w w' := by
  obtain ⟨c, HC⟩ : ∃ c, Hid (cm3 x y = c) := ⟨_, Hid.intro' rfl⟩
  rw [HC.out]
  by_cases h1 : x < y
  · have HE : Hid (-1 = c) := by show _ = _; rw [← HC.out, cm3_lt h1]
    go_enter Try.func19, Try.ntmps19
    go_wp2_with fail
    refine (isnan_any x _).mono ?_
    rintro e W1 ⟨rfl, rfl⟩
    go_wp2_with fail
    refine (isnan_any y _).mono ?_
    rintro e W1 ⟨rfl, rfl⟩
    go_wp2
    go_ret
    exact ⟨ret_int HE.out, Below.refl _ _⟩
  · by_cases h2 : y < x
    · have HE : Hid (1 = c) := by show _ = _; rw [← HC.out]; unfold cm3; rw [if_neg h1, if_pos h2]
      go_enter Try.func19, Try.ntmps19
      go_wp2_with fail
      refine (isnan_any x _).mono ?_
      rintro e W1 ⟨rfl, rfl⟩
      go_wp2_with fail
      refine (isnan_any y _).mono ?_
      rintro e W1 ⟨rfl, rfl⟩
      go_wp2
      go_ret
      exact ⟨ret_int HE.out, Below.refl _ _⟩
    · have HE : Hid (0 = c) := by show _ = _; rw [← HC.out]; unfold cm3; rw [if_neg h1, if_neg h2]
      go_enter Try.func19, Try.ntmps19
      go_wp2_with fail
      refine (isnan_any x _).mono ?_
      rintro e W1 ⟨rfl, rfl⟩
      go_wp2_with fail
      refine (isnan_any y _).mono ?_
      rintro e W1 ⟨rfl, rfl⟩
      go_wp2
      go_ret
      exact ⟨ret_int HE.out, Below.refl _ _⟩
set_option maxHeartbeats 1000000 in
theorem distance_any (x y : Int) (hx : 0 ≤ x ∧ x ≤ 1000) (hy : 0 ≤ y ∧ y ≤ 1000) (w : World) : Calls Try.prog 20 #[.int .i64 x, .int .i64 y] w fun e w' => e = .returned (.int .i64 (SM.dist x y)) ∧ Below w.heap.size w w' := by
  obtain ⟨c, HC⟩ : ∃ c, Hid (SM.dist x y = c) := ⟨_, Hid.intro' rfl⟩
  rw [HC.out]
  have hmx : (Builtin.max_ #[3, 3] 3 #[.int .i64 x, .int .i64 y]).run Try.prog w = .ok (.int .i64 (max x y)) w := by
    have e : max x y = if x < y then y else x := by split <;> omega
    rw [e]; rfl
  have hmn : (Builtin.min_ #[3, 3] 3 #[.int .i64 x, .int .i64 y]).run Try.prog w = .ok (.int .i64 (min x y)) w := by
    have e : min x y = if y < x then y else x := by split <;> omega
    rw [e]; rfl
  have HE : Hid (max x y - min x y = c) := by
    show _ = _
    rw [← HC.out]
    unfold SM.dist
    split <;> omega
  go_enter Try.func20, Try.ntmps20
  go_wp2
  go_ret
  exact ⟨ret_int HE.out, Below.refl _ _⟩

/-- a want's distance -/
def ky (ws : List (Int × Int)) (f x : Int) : Int := SM.dist f (RM.wf ws x)
set_option maxRecDepth 100000 in
set_option maxHeartbeats 4000000 in
theorem plancmp_any (s : Sn) (D : Nat → Prop) (vc vw : Value) (f x y : Int) (fb sb : Nat) (W : World) (hfb : W.cell? ⟨fb, 0, none⟩ = some (.int .i64 f)) (hnb : NB W sb s.st vc vw) (hw : R2 D W vw s.ws) (hf : 0 ≤ f ∧ f ≤ 1000) (hwf : ∀ y ∈ s.ws, 0 ≤ y.1 ∧ y.1 ≤ 1000) (hx : 0 ≤ x ∧ x < s.ws.length) (hy : 0 ≤ y ∧ y < s.ws.length) :
    Calls Try.prog 18 #[.int .i64 x, .int .i64 y, .pointer (some ⟨fb, 0, none⟩), .pointer (some ⟨sb, 0, none⟩)] W fun e w' => e = .returned (.int .i64 (cm3 (ky s.ws f x) (ky s.ws f y))) ∧ Below W.heap.size W w' := by
  obtain ⟨i, rfl⟩ : ∃ i : Nat, x = (i : Int) := ⟨x.toNat, by omega⟩
  obtain ⟨j, rfl⟩ : ∃ j : Nat, y = (j : Int) := ⟨y.toNat, by omega⟩
  have hi : i < s.ws.length := by omega
  have hj : j < s.ws.length := by omega
  obtain ⟨u, hu⟩ : ∃ u, s.ws[i]? = some u := ⟨_, List.getElem?_eq_getElem hi⟩
  obtain ⟨v, hv⟩ : ∃ v, s.ws[j]? = some v := ⟨_, List.getElem?_eq_getElem hj⟩
  obtain ⟨aw, kw, rfl, _, _⟩ := hw.form
  obtain ⟨gw, ow, rfl, u0, _⟩ := hw.at hu
  obtain ⟨gw', ow', e, v0, _⟩ := hw.at hv
  cases e
  have hub := hwf u (List.mem_of_getElem? hu)
  have hvb := hwf v (List.mem_of_getElem? hv)
  have ek1 : ky s.ws f (i : Int) = SM.dist f u.1 := by unfold ky; rw [RM.wf_get hu]
  have ek2 : ky s.ws f (j : Int) = SM.dist f v.1 := by unfold ky; rw [RM.wf_get hv]
  rw [ek1, ek2]
  have HD1 : Hid (∀ w', Below W.heap.size W w' → Calls Try.prog 20 #[.int .i64 f, .int .i64 u.1] w' fun e w'' => e = .returned (.int .i64 (SM.dist f u.1)) ∧ Below w'.heap.size w' w'') := fun w' _ => distance_any f u.1 hf hub w'
  have HD2 : Hid (∀ w', Below W.heap.size W w' → Calls Try.prog 20 #[.int .i64 f, .int .i64 v.1] w' fun e w'' => e = .returned (.int .i64 (SM.dist f v.1)) ∧ Below w'.heap.size w' w'') := fun w' _ => distance_any f v.1 hf hvb w'
  generalize SM.dist f u.1 = d1 at HD1 ⊢
  generalize SM.dist f v.1 = d2 at HD2 ⊢
  have HCM : Hid (∀ w', Below W.heap.size W w' → Calls Try.prog 19 #[.int .i64 d1, .int .i64 d2] w' fun e w'' => e = .returned (.int .i64 (cm3 d1 d2)) ∧ Below w'.heap.size w' w'') := fun w' _ => compare_any d1 d2 w'
  have F0 : Hid (∀ w', Below W.heap.size W w' → w'.cell? ⟨fb, 0, none⟩ = some (.int .i64 f)) := fun w' hw => (hw.cell (p := ⟨fb, 0, none⟩) (cell_lt hfb)).trans hfb
  have H14 : Hid (∀ w', Below W.heap.size W w' → w'.cell? ⟨sb, 14, none⟩ = some (.slice (some ⟨gw, ow, none⟩) s.ws.length kw)) := fun w' hw => (hnb.below' hw).cell 14
  have U0 : Hid (∀ w', Below W.heap.size W w' → w'.cell? ⟨gw, ow + i * 2, none⟩ = some (.int .i64 u.1)) := fun w' hw => (hw.cell (p := ⟨gw, ow + i * 2, none⟩) (cell_lt u0)).trans u0
  have V0 : Hid (∀ w', Below W.heap.size W w' → w'.cell? ⟨gw, ow + j * 2, none⟩ = some (.int .i64 v.1)) := fun w' hw => (hw.cell (p := ⟨gw, ow + j * 2, none⟩) (cell_lt v0)).trans v0
  generalize cm3 d1 d2 = c at HCM ⊢
  generalize u.1 = u1 at HD1 U0
  generalize v.1 = v1 at HD2 V0
  clear hfb hnb hw hf hwf hx hy hu hv u0 v0 hub hvb ek1 ek2
  go_enter Try.func18, Try.ntmps18
  go_wp2_with fail
  refine wp_region_quiet (C := fun w' => Below W.heap.size W w') (by kernel_rfl) (by kernel_rfl) ((Below.refl _ _).drew) ?_
  simp only []
  unfold wpQuiet
  generalize hK : wpQuiet Try.prog _ _ _ _ = K
  rw [if_pos (by go_simp)]
  refine quiet_load3 _ _ _ rfl rfl F0.out ?_
  go_simp
  subst hK
  unfold wpQuiet
  generalize hK : wpQuiet Try.prog _ _ _ _ = K
  go_simp
  refine ⟨_, fun _ _ => rfl, ?_⟩
  subst hK
  unfold wpQuiet
  generalize hK : wpQuiet Try.prog _ _ _ _ = K
  rw [if_pos (by go_simp)]
  refine quiet_lW _ _ _ rfl rfl H14.out ?_
  go_simp
  subst hK
  unfold wpQuiet
  generalize hK : wpQuiet Try.prog _ _ _ _ = K
  go_simp
  refine ⟨_, fun _ _ => rfl, ?_⟩
  subst hK
  unfold wpQuiet
  generalize hK : wpQuiet Try.prog _ _ _ _ = K
  rw [if_pos (by go_simp)]
  refine quiet_iW _ _ rfl rfl rfl hi ?_
  go_simp
  subst hK
  unfold wpQuiet
  generalize hK : wpQuiet Try.prog _ _ _ _ = K
  go_simp
  refine ⟨_, fun _ _ => rfl, ?_⟩
  subst hK
  unfold wpQuiet
  generalize hK : wpQuiet Try.prog _ _ _ _ = K
  rw [if_pos (by go_simp)]
  refine quiet_load3 _ _ _ rfl rfl U0.out ?_
  go_simp
  subst hK
  unfold wpQuiet
  generalize hK : wpQuiet Try.prog _ _ _ _ = K
  go_simp
  refine ⟨_, fun w' hw => (HD1.out w' hw).mono fun e w'' hh => ⟨hh.1, below_class hw hh.2⟩, ?_⟩
  subst hK
  unfold wpQuiet
  generalize hK : wpQuiet Try.prog _ _ _ _ = K
  rw [if_pos (by go_simp)]
  refine quiet_load3 _ _ _ rfl rfl F0.out ?_
  go_simp
  subst hK
  unfold wpQuiet
  generalize hK : wpQuiet Try.prog _ _ _ _ = K
  go_simp
  refine ⟨_, fun _ _ => rfl, ?_⟩
  subst hK
  unfold wpQuiet
  generalize hK : wpQuiet Try.prog _ _ _ _ = K
  rw [if_pos (by go_simp)]
  refine quiet_lW _ _ _ rfl rfl H14.out ?_
  go_simp
  subst hK
  unfold wpQuiet
  generalize hK : wpQuiet Try.prog _ _ _ _ = K
  go_simp
  refine ⟨_, fun _ _ => rfl, ?_⟩
  subst hK
  unfold wpQuiet
  generalize hK : wpQuiet Try.prog _ _ _ _ = K
  rw [if_pos (by go_simp)]
  refine quiet_iW _ _ rfl rfl rfl hj ?_
  go_simp
  subst hK
  unfold wpQuiet
  generalize hK : wpQuiet Try.prog _ _ _ _ = K
  go_simp
  refine ⟨_, fun _ _ => rfl, ?_⟩
  subst hK
  unfold wpQuiet
  generalize hK : wpQuiet Try.prog _ _ _ _ = K
  rw [if_pos (by go_simp)]
  refine quiet_load3 _ _ _ rfl rfl V0.out ?_
  go_simp
  subst hK
  unfold wpQuiet
  generalize hK : wpQuiet Try.prog _ _ _ _ = K
  go_simp
  refine ⟨_, fun w' hw => (HD2.out w' hw).mono fun e w'' hh => ⟨hh.1, below_class hw hh.2⟩, ?_⟩
  subst hK
  unfold wpQuiet
  generalize hK : wpQuiet Try.prog _ _ _ _ = K
  go_simp
  refine ⟨_, fun w' hw => (HCM.out w' hw).mono fun e w'' hh => ⟨hh.1, below_class hw hh.2⟩, ?_⟩
  subst hK
  unfold wpQuiet
  generalize hK : wpQuiet Try.prog _ _ _ _ = K
  go_simp
  refine ⟨_, fun _ _ => rfl, ?_⟩
  subst hK
  refine wpQuiet_nil ?_
  intro W3 hb3
  have HB3 := Hid.intro' hb3
  clear hb3 HD1 HD2 HCM F0 H14 U0 V0
  go_wp2
  go_ret
  exact ⟨rfl, HB3.out⟩

end Go.Proofs.Ytdfdkddjkhcgdai
