/- Two parts in order are made one: the step. -/
import Derived.Test.YtdfdkddjkhcgdahStT
import Derived.Deep.DeepCutAuto
namespace Go.Proofs.Ytdfdkddjkhcgdah
open Go.RowKit Go.Shelf

/-- where the parts are cut is looked for: between S and R -/
structure Sr (k : Int → Int) (X Y : List Int) (M a S R : Nat) : Prop where
  s0 : a ≤ S
  sr : S ≤ R
  rm : R ≤ a + M
  rx : R ≤ a + X.length
  sy : a + M ≤ S + Y.length
  lo : SO.Lo k X Y M (S - a)
  hi : SO.Hi k X Y M (R - a)
section
variable {k : Int → Int} {X Y : List Int} {M a S R c : Nat} {x y : Int}
theorem Sr.more (h : X.length ≥ M + 1) (hy : Y.length ≤ M) : Sr k X Y M a (a + M - Y.length) (a + M) :=
  ⟨by omega, by omega, by omega, by omega, by omega, SO.lo_first (.inr (by omega)), SO.hi_first (.inr (by omega))⟩
theorem Sr.less (h : X.length ≤ M) (hy : M ≤ Y.length) : Sr k X Y M a a (a + X.length) :=
  ⟨by omega, by omega, by omega, by omega, by omega, SO.lo_first (.inl (by omega)), SO.hi_first (.inl (by omega))⟩
theorem Sr.at (h : Sr k X Y M a S R) (h1 : S ≤ c) (h2 : c < R) : ∃ x y, X[c - a]? = some x ∧ Y[M - 1 - (c - a)]? = some y := by
  have := h.s0; have := h.rm; have := h.rx; have := h.sy
  exact ⟨_, _, List.getElem?_eq_getElem (by omega), List.getElem?_eq_getElem (by omega)⟩
theorem Sr.up (h : Sr k X Y M a S R) (hX : SO.Sd k X) (hY : SO.Sd k Y) (h1 : S ≤ c) (h2 : c < R) (ex : X[c - a]? = some x) (ey : Y[M - 1 - (c - a)]? = some y) (hl : ¬ k y < k x) : Sr k X Y M a (c + 1) R := by
  have := h.s0; have := h.rm; have := h.rx; have := h.sy
  refine ⟨by omega, by omega, h.rm, h.rx, by omega, ?_, h.hi⟩
  have := SO.lo_step hX hY ex ey (by omega)
  rwa [show c - a + 1 = c + 1 - a by omega] at this
theorem Sr.down (h : Sr k X Y M a S R) (hX : SO.Sd k X) (hY : SO.Sd k Y) (h1 : S ≤ c) (h2 : c < R) (ex : X[c - a]? = some x) (ey : Y[M - 1 - (c - a)]? = some y) (hl : k y < k x) : Sr k X Y M a S c := by
  have := h.s0; have := h.rm; have := h.rx; have := h.sy
  exact ⟨by omega, h1, by omega, by omega, h.sy, h.lo, SO.hi_step hX hY (by omega) ex ey hl⟩
end

/-- the same for parts that are shorter together -/
def SyIH (w : World) (B g cap n : Nat) (v1 v2 : Value) (k : Int → Int) (ok : Int → Prop) (N : Nat) : Prop :=
  ∀ (A X Y D : List Int) (a m b : Nat), a = A.length → m = a + X.length → b = m + Y.length → 0 < X.length → 0 < Y.length → X.length + Y.length ≤ N → SO.Sd k X → SO.Sd k Y → SO.Tt k X Y → (∀ x ∈ X ++ Y, ok x) → ∀ W, Srt w W B g cap n (A ++ X ++ Y ++ D) →
    Calls Try.prog 98 #[.slice (some ⟨g, 0, none⟩) n cap, .int .i64 (a : Int), .int .i64 (m : Int), .int .i64 (b : Int), .func (.func 42) #[] #[v1, v2]] W fun e W' => e = .returned (.tuple #[]) ∧ ∃ M, M.Perm (X ++ Y) ∧ SO.Sd k M ∧ Srt w W' B g cap n (A ++ M ++ D)

/-- a part is put in order -/
def Q1 (w W : World) (B g cap n : Nat) (k : Int → Int) (A X T : List Int) : Prop := ∃ M, M.Perm X ∧ SO.Sd k M ∧ Srt w W B g cap n (A ++ M ++ T)
/-- how the numbers of a step hang together -/
structure Nm (A X Y : List Int) (a m b M md t S E N : Nat) : Prop where
  a0 : a = A.length
  m0 : m = a + X.length
  b0 : b = m + Y.length
  md0 : md = a + M
  s0 : S = a + t
  e0 : E = m + (M - t)
  tm : t ≤ M
  tx : t ≤ X.length
  ty : M - t ≤ Y.length
  mx : M < X.length + Y.length
  m1 : 0 < M
  nn : X.length + Y.length ≤ N + 1
section
variable {w : World} {B g cap n : Nat} {A X Y D : List Int} {v1 v2 : Value} {k : Int → Int} {ok : Int → Prop} {a m b M md t S E N : Nat} {W : World}
theorem st_rot (h : Nm A X Y a m b M md t S E N) (h1 : S < m) (h2 : S < md) (hn : n ≤ 1000) (f : Value) (hs : Srt w W B g cap n (A ++ X ++ Y ++ D)) :
    Calls Try.prog 114 #[.slice (some ⟨g, 0, none⟩) n cap, .int .i64 (S : Int), .int .i64 (m : Int), .int .i64 (E : Int), f] W fun e W' => e = .returned (.tuple #[]) ∧ Srt w W' B g cap n (A ++ X.take t ++ Y.take (M - t) ++ (X.drop t ++ Y.drop (M - t) ++ D)) := by
  have e1 := h.a0; have e2 := h.m0; have e3 := h.b0; have e4 := h.md0; have e5 := h.s0; have e6 := h.e0; have e7 := h.tm; have e8 := h.tx; have e9 := h.ty
  have hr := rotate_any w B g cap n (A ++ X.take t) (X.drop t) (Y.take (M - t)) (Y.drop (M - t) ++ D) f S m E (by rw [List.length_append, List.length_take]; omega) (by rw [List.length_drop]; omega) (by rw [List.length_take]; omega) (by rw [List.length_drop]; omega) (by rw [List.length_take]; omega) hn W (by
    have hx := List.take_append_drop t X
    have hy := List.take_append_drop (M - t) Y
    have e : A ++ X.take t ++ X.drop t ++ Y.take (M - t) ++ (Y.drop (M - t) ++ D) = A ++ (X.take t ++ X.drop t) ++ (Y.take (M - t) ++ Y.drop (M - t)) ++ D := by simp only [List.append_assoc]
    rw [e, hx, hy]
    exact hs)
  refine hr.mono fun e W' ⟨h1, h2⟩ => ⟨h1, ?_⟩
  simp only [List.append_assoc] at h2 ⊢
  exact h2
theorem st_norot (h : Nm A X Y a m b M md t S E N) (h1 : S = m ∨ S = md) (hs : Srt w W B g cap n (A ++ X ++ Y ++ D)) : Srt w W B g cap n (A ++ X.take t ++ Y.take (M - t) ++ (X.drop t ++ Y.drop (M - t) ++ D)) := by
  have e2 := h.m0; have e4 := h.md0; have e5 := h.s0; have e6 := h.e0; have e7 := h.tm; have e8 := h.tx
  have e : A ++ X.take t ++ Y.take (M - t) ++ (X.drop t ++ Y.drop (M - t) ++ D) = A ++ X ++ Y ++ D := by
    have hx := List.take_append_drop t X
    have hy := List.take_append_drop (M - t) Y
    rcases h1 with h1 | h1
    · have h3 : X.drop t = [] := List.drop_of_length_le (by omega)
      rw [h3, List.append_nil] at hx
      rw [h3, hx, List.nil_append]
      conv => rhs; rw [← hy]
      simp only [List.append_assoc]
    · have h3 : M - t = 0 := by omega
      rw [h3, List.take_zero, List.drop_zero, List.append_nil]
      conv => rhs; rw [← hx]
      simp only [List.append_assoc]
  rw [e]
  exact hs
theorem st_one (h : Nm A X Y a m b M md t S E N) (ih : SyIH w B g cap n v1 v2 k ok N) (hX : SO.Sd k X) (hY : SO.Sd k Y) (hT : SO.Tt k X Y) (ho : ∀ x ∈ X ++ Y, ok x) (h1 : a < S) (h2 : S < md) (T : List Int) (hs : Srt w W B g cap n (A ++ X.take t ++ Y.take (M - t) ++ T)) :
    Calls Try.prog 98 #[.slice (some ⟨g, 0, none⟩) n cap, .int .i64 (a : Int), .int .i64 (S : Int), .int .i64 (md : Int), .func (.func 42) #[] #[v1, v2]] W fun e W' => e = .returned (.tuple #[]) ∧ Q1 w W' B g cap n k A (X.take t ++ Y.take (M - t)) T := by
  have e1 := h.a0; have e2 := h.m0; have e3 := h.b0; have e4 := h.md0; have e5 := h.s0; have e6 := h.e0; have e7 := h.tm; have e8 := h.tx; have e9 := h.ty; have e10 := h.mx; have e11 := h.nn
  have hx : SO.Sd k (X.take t ++ X.drop t) := by rw [List.take_append_drop]; exact hX
  have hy : SO.Sd k (Y.take (M - t) ++ Y.drop (M - t)) := by rw [List.take_append_drop]; exact hY
  exact ih A (X.take t) (Y.take (M - t)) T a S md e1 (by rw [List.length_take]; omega) (by rw [List.length_take]; omega) (by rw [List.length_take]; omega) (by rw [List.length_take]; omega) (by rw [List.length_take, List.length_take]; omega) hx.left hy.left
    (fun x hx y hy => hT x (List.mem_of_mem_take hx) y (List.mem_of_mem_take hy)) (fun x hx => ho x (by
      rcases List.mem_append.1 hx with hx | hx
      · exact List.mem_append_left _ (List.mem_of_mem_take hx)
      · exact List.mem_append_right _ (List.mem_of_mem_take hx))) W hs
theorem st_noone (h : Nm A X Y a m b M md t S E N) (hX : SO.Sd k X) (hY : SO.Sd k Y) (h1 : S = a ∨ S = md) (T : List Int) (hs : Srt w W B g cap n (A ++ X.take t ++ Y.take (M - t) ++ T)) : Q1 w W B g cap n k A (X.take t ++ Y.take (M - t)) T := by
  have e4 := h.md0; have e5 := h.s0
  have hx : SO.Sd k (X.take t ++ X.drop t) := by rw [List.take_append_drop]; exact hX
  have hy : SO.Sd k (Y.take (M - t) ++ Y.drop (M - t)) := by rw [List.take_append_drop]; exact hY
  refine ⟨_, List.Perm.refl _, ?_, by simp only [List.append_assoc] at hs ⊢; exact hs⟩
  rcases h1 with h1 | h1
  · rw [show t = 0 by omega, List.take_zero, List.nil_append]
    rw [show t = 0 by omega] at hy
    exact hy.left
  · rw [show M - t = 0 by omega, List.take_zero, List.append_nil]
    exact hx.left
theorem st_two (h : Nm A X Y a m b M md t S E N) (ih : SyIH w B g cap n v1 v2 k ok N) (hX : SO.Sd k X) (hY : SO.Sd k Y) (hT : SO.Tt k X Y) (ho : ∀ x ∈ X ++ Y, ok x) (hl : SO.Lo k X Y M t) (hh : SO.Hi k X Y M t) (h1 : S < m) (h2 : E < b) (hs : Q1 w W B g cap n k A (X.take t ++ Y.take (M - t)) (X.drop t ++ Y.drop (M - t) ++ D)) :
    Calls Try.prog 98 #[.slice (some ⟨g, 0, none⟩) n cap, .int .i64 (md : Int), .int .i64 (E : Int), .int .i64 (b : Int), .func (.func 42) #[] #[v1, v2]] W fun e W' => e = .returned (.tuple #[]) ∧ Q1 w W' B g cap n k A (X ++ Y) D := by
  have e1 := h.a0; have e2 := h.m0; have e3 := h.b0; have e4 := h.md0; have e5 := h.s0; have e6 := h.e0; have e7 := h.tm; have e8 := h.tx; have e9 := h.ty; have e10 := h.m1; have e11 := h.nn
  have hx : SO.Sd k (X.take t ++ X.drop t) := by rw [List.take_append_drop]; exact hX
  have hy : SO.Sd k (Y.take (M - t) ++ Y.drop (M - t)) := by rw [List.take_append_drop]; exact hY
  obtain ⟨M1, p1, s1, hs⟩ := hs
  have hl1 : M1.length = M := by rw [p1.length_eq, List.length_append, List.length_take, List.length_take]; omega
  refine (ih (A ++ M1) (X.drop t) (Y.drop (M - t)) D md E b (by rw [List.length_append]; omega) (by rw [List.length_drop]; omega) (by rw [List.length_drop]; omega) (by rw [List.length_drop]; omega) (by rw [List.length_drop]; omega) (by rw [List.length_drop, List.length_drop]; omega) hx.right hy.right
    (fun x hx y hy => hT x (List.mem_of_mem_drop hx) y (List.mem_of_mem_drop hy)) (fun x hx => ho x (by
      rcases List.mem_append.1 hx with hx | hx
      · exact List.mem_append_left _ (List.mem_of_mem_drop hx)
      · exact List.mem_append_right _ (List.mem_of_mem_drop hx))) W (by simp only [List.append_assoc] at hs ⊢; exact hs)).mono ?_
  rintro e W' ⟨he, M2, p2, s2, h2⟩
  obtain ⟨h3, h4⟩ := SO.mrg hX hY hT hl hh p1 s1 p2 s2
  exact ⟨he, M1 ++ M2, h4, h3, by simp only [List.append_assoc] at h2 ⊢; exact h2⟩
theorem st_notwo (h : Nm A X Y a m b M md t S E N) (hX : SO.Sd k X) (hY : SO.Sd k Y) (hT : SO.Tt k X Y) (hl : SO.Lo k X Y M t) (hh : SO.Hi k X Y M t) (h1 : S = m ∨ E = b) (hs : Q1 w W B g cap n k A (X.take t ++ Y.take (M - t)) (X.drop t ++ Y.drop (M - t) ++ D)) : Q1 w W B g cap n k A (X ++ Y) D := by
  have e2 := h.m0; have e3 := h.b0; have e5 := h.s0; have e6 := h.e0
  have hx : SO.Sd k (X.take t ++ X.drop t) := by rw [List.take_append_drop]; exact hX
  have hy : SO.Sd k (Y.take (M - t) ++ Y.drop (M - t)) := by rw [List.take_append_drop]; exact hY
  obtain ⟨M1, p1, s1, hs⟩ := hs
  have s2 : SO.Sd k (X.drop t ++ Y.drop (M - t)) := by
    rcases h1 with h1 | h1
    · rw [List.drop_of_length_le (show X.length ≤ t by omega), List.nil_append]; exact hy.right
    · rw [List.drop_of_length_le (show Y.length ≤ M - t by omega), List.append_nil]; exact hx.right
  obtain ⟨h3, h4⟩ := SO.mrg hX hY hT hl hh p1 s1 (List.Perm.refl _) s2
  exact ⟨_, h4, h3, by simp only [List.append_assoc] at hs ⊢; exact hs⟩
end

set_option maxRecDepth 100000 in
set_option maxHeartbeats 16000000 in
theorem sym_step (w : World) (B g cap n : Nat) (A X Y D : List Int) (v1 v2 : Value) (k : Int → Int) (ok : Int → Prop) (a m b N : Nat) (ha : a = A.length) (hm : m = a + X.length) (hb : b = m + Y.length) (hX2 : 1 < X.length) (hY2 : 1 < Y.length) (hN : X.length + Y.length ≤ N + 1) (hn : n ≤ 1000) (hX : SO.Sd k X) (hY : SO.Sd k Y) (hT : SO.Tt k X Y) (ho : ∀ x ∈ X ++ Y, ok x) (hc : Ck v1 v2 k ok w g) (ih : SyIH w B g cap n v1 v2 k ok N) (W : World) (h : Srt w W B g cap n (A ++ X ++ Y ++ D)) :
    Calls Try.prog 98 #[.slice (some ⟨g, 0, none⟩) n cap, .int .i64 (a : Int), .int .i64 (m : Int), .int .i64 (b : Int), .func (.func 42) #[] #[v1, v2]] W fun e W' => e = .returned (.tuple #[]) ∧ ∃ M, M.Perm (X ++ Y) ∧ SO.Sd k M ∧ Srt w W' B g cap n (A ++ M ++ D) := by
  have hbn : b ≤ n := by
    have := h.len
    simp only [List.length_append] at this
    omega
  have HO := Hid.intro' ho
  have HC := Hid.intro' hc
  have HY := Hid.intro' (And.intro hX (And.intro hY hT))
  have HIH := Hid.intro' ih
  obtain ⟨R, HR⟩ : ∃ R : World → Prop, Hid (R = fun W' => ∃ M, M.Perm (X ++ Y) ∧ SO.Sd k M ∧ Srt w W' B g cap n (A ++ M ++ D)) := ⟨_, rfl⟩
  have hgoal : (fun (e : Ending) W' => e = .returned (.tuple #[]) ∧ ∃ M, M.Perm (X ++ Y) ∧ SO.Sd k M ∧ Srt w W' B g cap n (A ++ M ++ D)) = fun e W' => e = .returned (.tuple #[]) ∧ R W' := by rw [HR.out]
  rw [hgoal]
  obtain ⟨L, HL⟩ : ∃ L, Hid (A ++ X ++ Y ++ D = L) := ⟨_, Hid.intro' rfl⟩
  rw [HL.out] at h
  obtain ⟨x0, hx0⟩ : ∃ x0, x0 = X.length := ⟨_, rfl⟩
  obtain ⟨y0, hy0⟩ : ∃ y0, y0 = Y.length := ⟨_, rfl⟩
  obtain ⟨M, hM⟩ : ∃ M, M = (x0 + y0) / 2 := ⟨_, rfl⟩
  obtain ⟨md, hmd⟩ : ∃ md, md = a + M := ⟨_, rfl⟩
  obtain ⟨nn, hnn⟩ : ∃ nn, nn = md + m := ⟨_, rfl⟩
  obtain ⟨p, hp⟩ : ∃ p, p + 1 = nn := ⟨nn - 1, by omega⟩
  have HA : Hid (a = A.length ∧ m = a + X.length ∧ b = m + Y.length ∧ x0 = X.length ∧ y0 = Y.length ∧ M = (x0 + y0) / 2 ∧ md = a + M ∧ nn = md + m ∧ p + 1 = nn ∧ 1 < x0 ∧ 1 < y0 ∧ X.length + Y.length ≤ N + 1) := ⟨ha, hm, hb, hx0, hy0, hM, hmd, hnn, hp, by omega, by omega, hN⟩
  have e1 : (m : Int) - (a : Int) = (x0 : Int) := by omega
  have hx1 : ((x0 : Int) == 1) = false := by simp; omega
  have hx2 : ¬ (x0 : Int) = 1 := by omega
  have hx3 : ¬ x0 = 1 := by omega
  have e2 : (b : Int) - (m : Int) = (y0 : Int) := by omega
  have hy1 : ((y0 : Int) == 1) = false := by simp; omega
  have hy2 : ¬ (y0 : Int) = 1 := by omega
  have hy3 : ¬ y0 = 1 := by omega
  have hx4 : x0 ≤ 1000 := by omega
  have hy4 : y0 ≤ 1000 := by omega
  have emd : ((a : Int) + (b : Int)) / 2 = (md : Int) := by omega
  have enn : (md : Int) + (m : Int) = (nn : Int) := by omega
  have hab : a < m ∧ m < b ∧ a < md ∧ md < b := by omega
  have hnn2 : nn ≤ 2000 := by omega
  have H0 := Hid.intro' h
  clear hgoal ho hc hX hT hY h ha hm hb hX2 hY2 hx0 hy0 hM hmd hnn hp ih hN
  go_enter Try.func98, Try.ntmps98
  go_upto_if 140 with fail
  go_cut [20, 21] (fun s20 s21 W' => ∃ S0 R0 : Nat, s20 = .int .i64 (S0 : Int) ∧ s21 = .int .i64 (R0 : Int) ∧ Hid (Sr k X Y M a S0 R0) ∧ Hid (Srt w W' B g cap n L))
  case first =>
    by_cases hc : md < m
    · have hz : (md : Int) < (m : Int) := by omega
      obtain ⟨s0, hs0⟩ : ∃ s0, s0 = a + M - Y.length := ⟨_, rfl⟩
      have es : (nn : Int) - (b : Int) = (s0 : Int) := by have := HA.out; omega
      have hs1 : s0 ≤ 1000 := by have := HA.out; omega
      have HSR : Hid (Sr k X Y M a s0 md) := by
        have h1 := HA.out
        have h2 : Sr k X Y M a (a + M - Y.length) (a + M) := Sr.more (by omega) (by omega)
        rwa [← hs0, ← h1.2.2.2.2.2.2.1] at h2
      clear hs0
      go_wp2
      go_meet
      case rel => exact ⟨s0, md, by go_num, rfl, HSR, H0⟩
    · have hz : ¬ (md : Int) < (m : Int) := by omega
      have HSR : Hid (Sr k X Y M a a m) := by
        have h1 := HA.out
        have h2 : Sr k X Y M a a (a + X.length) := Sr.less (by omega) (by omega)
        rwa [← h1.2.1] at h2
      go_wp2
      go_meet
      case rel => exact ⟨a, m, rfl, rfl, HSR, H0⟩
  case rest =>
    obtain ⟨S0, R0, rfl, rfl, HSR0, HS0⟩ := hcut
    have ep : (nn : Int) - 1 = (p : Int) := by have := HA.out; omega
    have hp1 : p ≤ 2000 := by have := HA.out; omega
    clear H0 e1 e2 emd enn
    go_wp2_with fail
    clear ep
    go_loopw [20, 21] (fun sv rv wr => ∃ (S R : Nat), sv = .int .i64 (S : Int) ∧ rv = .int .i64 (R : Int) ∧ Hid (Sr k X Y M a S R) ∧ Hid (Srt w wr B g cap n L)) (fun sv rv _ => (intOf rv).toNat - (intOf sv).toNat)
    case atStart => exact ⟨S0, R0, rfl, rfl, HSR0, HS0⟩
    case round =>
      clear HSR0 HS0
      obtain ⟨S, T, rfl, rfl, HSR, HS⟩ := hrel
      have hTn : T ≤ n := by have := HSR.out.rx; have := HA.out; omega
      have hST : S ≤ T := HSR.out.sr
      by_cases hlt : S < T
      · have hlz : (S : Int) < (T : Int) := by omega
        obtain ⟨c, hc⟩ : ∃ c, c = (S + T) / 2 := ⟨_, rfl⟩
        have ec : ((S : Int) + (T : Int)) / 2 = (c : Int) := by omega
        have hSc : S ≤ c := by omega
        have hcT : c < T := by omega
        have hcn : c < n := by omega
        obtain ⟨x, y, hx, hy⟩ := HSR.out.at hSc hcT
        obtain ⟨pc, hpc⟩ : ∃ pc, pc = p - c := ⟨_, rfl⟩
        have hnum : a ≤ c ∧ c < a + M := by have h1 := HSR.out.rm; have h2 := HSR.out.s0; omega
        have epc : (p : Int) - (c : Int) = (pc : Int) := by have := HA.out; omega
        have hwc : IntKind.i64.wrap (pc : Int) = (pc : Int) := by rw [IntKind.wrap_i64]; omega
        have hpcn : pc < n := by have h1 := HA.out; have h2 := HSR.out.sy; omega
        have HXY := Hid.intro' (And.intro hx hy)
        have HLX : Hid (L[c]? = some x) := by
          show _ = _
          have := row_x (A := A) (Y := Y) (D := D) hx
          rw [HL.out] at this
          rw [← this]
          congr 1
          have := HA.out
          omega
        have HLY : Hid (L[pc]? = some y) := by
          show _ = _
          have := row_y (A := A) (X := X) (D := D) hy
          rw [HL.out] at this
          rw [← this]
          congr 1
          have := HA.out
          omega
        have CX : Hid (∀ w', Below wr.heap.size wr w' → w'.cell? ⟨g, c, none⟩ = some (.int .i64 x)) := fun w' hw => (HS.out.next hw).cell HLX.out
        have CY : Hid (∀ w', Below wr.heap.size wr w' → w'.cell? ⟨g, pc, none⟩ = some (.int .i64 y)) := fun w' hw => (HS.out.next hw).cell HLY.out
        have HCL : Hid (∀ w', Below wr.heap.size wr w' → Calls Try.prog 42 #[.int .i64 y, .int .i64 x, v1, v2] w' fun e w'' => e = .returned (.int .i64 (cm3 (k y) (k x))) ∧ Below w'.heap.size w' w'') := fun w' hw =>
          HC.out w' y x (HS.out.kp.thenBelow hw) (HO.out y (List.mem_append_right _ (List.mem_of_getElem? hy))) (HO.out x (List.mem_append_left _ (List.mem_of_getElem? hx)))
        clear hc hx hy hpc hnum
        by_cases hlk : k y < k x
        · rw [cm3_lt hlk] at HCL
          have HB2 := Hid.intro' (HSR.out.down HY.out.1 HY.out.2.1 hSc hcT HXY.out.1 HXY.out.2 hlk)
          clear hlk
          go_wp2_with fail
          refine wp_region_quiet (C := fun w' => Below wr.heap.size wr w') (by kernel_rfl) (by kernel_rfl) ((Below.refl _ _).drew) ?_
          simp only []
          unfold wpQuiet
          generalize hK : wpQuiet Try.prog _ _ _ _ = K
          go_simp
          refine ⟨_, fun _ _ => rfl, ?_⟩
          subst hK
          unfold wpQuiet
          generalize hK : wpQuiet Try.prog _ _ _ _ = K
          go_simp
          refine ⟨_, fun _ _ => rfl, ?_⟩
          subst hK
          unfold wpQuiet
          generalize hK : wpQuiet Try.prog _ _ _ _ = K
          go_simp
          refine ⟨_, fun _ _ => rfl, ?_⟩
          subst hK
          unfold wpQuiet
          generalize hK : wpQuiet Try.prog _ _ _ _ = K
          go_simp
          refine ⟨_, fun _ _ => rfl, ?_⟩
          subst hK
          unfold wpQuiet
          generalize hK : wpQuiet Try.prog _ _ _ _ = K
          go_simp
          refine ⟨_, fun _ _ => rfl, ?_⟩
          subst hK
          unfold wpQuiet
          generalize hK : wpQuiet Try.prog _ _ _ _ = K
          rw [if_pos (by go_simp)]
          refine quiet_ixI _ _ rfl rfl rfl hpcn ?_
          go_simp
          subst hK
          unfold wpQuiet
          generalize hK : wpQuiet Try.prog _ _ _ _ = K
          rw [if_pos (by go_simp)]
          refine quiet_load3 _ _ _ rfl rfl CY.out ?_
          go_simp
          subst hK
          unfold wpQuiet
          generalize hK : wpQuiet Try.prog _ _ _ _ = K
          go_simp
          refine ⟨_, fun _ _ => rfl, ?_⟩
          subst hK
          unfold wpQuiet
          generalize hK : wpQuiet Try.prog _ _ _ _ = K
          go_simp
          refine ⟨_, fun _ _ => rfl, ?_⟩
          subst hK
          unfold wpQuiet
          generalize hK : wpQuiet Try.prog _ _ _ _ = K
          rw [if_pos (by go_simp)]
          refine quiet_ixI _ _ rfl rfl rfl hcn ?_
          go_simp
          subst hK
          unfold wpQuiet
          generalize hK : wpQuiet Try.prog _ _ _ _ = K
          rw [if_pos (by go_simp)]
          refine quiet_load3 _ _ _ rfl rfl CX.out ?_
          go_simp
          subst hK
          unfold wpQuiet
          generalize hK : wpQuiet Try.prog _ _ _ _ = K
          go_simp
          refine ⟨_, fun w' hw => (HCL.out w' hw).mono fun e w'' hh => ⟨hh.1, below_class hw hh.2⟩, ?_⟩
          subst hK
          unfold wpQuiet
          generalize hK : wpQuiet Try.prog _ _ _ _ = K
          go_simp
          refine ⟨_, fun _ _ => rfl, ?_⟩
          subst hK
          unfold wpQuiet
          generalize hK : wpQuiet Try.prog _ _ _ _ = K
          go_simp
          refine ⟨_, fun _ _ => rfl, ?_⟩
          subst hK
          refine wpQuiet_nil ?_
          intro W3 hb3
          have HS3 := Hid.intro' (HS.out.next hb3)
          clear hb3 HS HSR CX CY HCL HLX HLY HXY
          go_wp2
          go_roundw
          case rel => exact ⟨S, c, rfl, by go_num, HB2, HS3⟩
          case measure => simp [intOf]; omega
        · obtain ⟨d, hd1, hd2⟩ := cm3_ge hlk
          rw [hd1] at HCL
          have HB2 := Hid.intro' (HSR.out.up HY.out.1 HY.out.2.1 hSc hcT HXY.out.1 HXY.out.2 hlk)
          have hd3 : decide (d < 0) = false := decide_eq_false hd2
          clear hlk hd1
          go_wp2_with fail
          refine wp_region_quiet (C := fun w' => Below wr.heap.size wr w') (by kernel_rfl) (by kernel_rfl) ((Below.refl _ _).drew) ?_
          simp only []
          unfold wpQuiet
          generalize hK : wpQuiet Try.prog _ _ _ _ = K
          go_simp
          refine ⟨_, fun _ _ => rfl, ?_⟩
          subst hK
          unfold wpQuiet
          generalize hK : wpQuiet Try.prog _ _ _ _ = K
          go_simp
          refine ⟨_, fun _ _ => rfl, ?_⟩
          subst hK
          unfold wpQuiet
          generalize hK : wpQuiet Try.prog _ _ _ _ = K
          go_simp
          refine ⟨_, fun _ _ => rfl, ?_⟩
          subst hK
          unfold wpQuiet
          generalize hK : wpQuiet Try.prog _ _ _ _ = K
          go_simp
          refine ⟨_, fun _ _ => rfl, ?_⟩
          subst hK
          unfold wpQuiet
          generalize hK : wpQuiet Try.prog _ _ _ _ = K
          go_simp
          refine ⟨_, fun _ _ => rfl, ?_⟩
          subst hK
          unfold wpQuiet
          generalize hK : wpQuiet Try.prog _ _ _ _ = K
          rw [if_pos (by go_simp)]
          refine quiet_ixI _ _ rfl rfl rfl hpcn ?_
          go_simp
          subst hK
          unfold wpQuiet
          generalize hK : wpQuiet Try.prog _ _ _ _ = K
          rw [if_pos (by go_simp)]
          refine quiet_load3 _ _ _ rfl rfl CY.out ?_
          go_simp
          subst hK
          unfold wpQuiet
          generalize hK : wpQuiet Try.prog _ _ _ _ = K
          go_simp
          refine ⟨_, fun _ _ => rfl, ?_⟩
          subst hK
          unfold wpQuiet
          generalize hK : wpQuiet Try.prog _ _ _ _ = K
          go_simp
          refine ⟨_, fun _ _ => rfl, ?_⟩
          subst hK
          unfold wpQuiet
          generalize hK : wpQuiet Try.prog _ _ _ _ = K
          rw [if_pos (by go_simp)]
          refine quiet_ixI _ _ rfl rfl rfl hcn ?_
          go_simp
          subst hK
          unfold wpQuiet
          generalize hK : wpQuiet Try.prog _ _ _ _ = K
          rw [if_pos (by go_simp)]
          refine quiet_load3 _ _ _ rfl rfl CX.out ?_
          go_simp
          subst hK
          unfold wpQuiet
          generalize hK : wpQuiet Try.prog _ _ _ _ = K
          go_simp
          refine ⟨_, fun w' hw => (HCL.out w' hw).mono fun e w'' hh => ⟨hh.1, below_class hw hh.2⟩, ?_⟩
          subst hK
          unfold wpQuiet
          generalize hK : wpQuiet Try.prog _ _ _ _ = K
          go_simp
          refine ⟨_, fun _ _ => rfl, ?_⟩
          subst hK
          unfold wpQuiet
          generalize hK : wpQuiet Try.prog _ _ _ _ = K
          go_simp
          refine ⟨_, fun _ _ => rfl, ?_⟩
          subst hK
          refine wpQuiet_nil ?_
          intro W3 hb3
          have HS3 := Hid.intro' (HS.out.next hb3)
          clear hb3 HS HSR CX CY HCL HLX HLY HXY
          go_wp2
          go_roundw
          case rel => exact ⟨c + 1, T, by go_num, rfl, HB2, HS3⟩
          case measure => simp [intOf]; omega
      · have hlz : ¬ (S : Int) < (T : Int) := by omega
        obtain rfl : S = T := by omega
        obtain ⟨t, ht⟩ : ∃ t, t = S - a := ⟨_, rfl⟩
        obtain ⟨E, hE⟩ : ∃ E, E = m + (M - t) := ⟨_, rfl⟩
        have HNM : Hid (Nm A X Y a m b M md t S E N) := by
          have h1 := HA.out
          have h2 := HSR.out.s0; have h3 := HSR.out.rm; have h4 := HSR.out.rx; have h5 := HSR.out.sy
          exact ⟨h1.1, h1.2.1, h1.2.2.1, h1.2.2.2.2.2.2.1, by omega, hE, by omega, by omega, by omega, by omega, by omega, h1.2.2.2.2.2.2.2.2.2.2.2⟩
        have HLO : Hid (SO.Lo k X Y M t ∧ SO.Hi k X Y M t) := by rw [ht]; exact ⟨HSR.out.lo, HSR.out.hi⟩
        have hSm : S ≤ m := by have h1 := HA.out; have h2 := HSR.out.rx; omega
        have hSd : S ≤ md := by have h1 := HA.out; have h2 := HSR.out.rm; omega
        have hSa : a ≤ S := HSR.out.s0
        have eE : (nn : Int) - (S : Int) = (E : Int) := by have h1 := HA.out; have h2 := HSR.out.s0; have h3 := HSR.out.rm; omega
        have HE2 : Hid (E + S = m + md) := by show _ = _; have h1 := HA.out; have h2 := HSR.out.s0; omega
        have hEb : E ≤ b := by have h1 := HA.out; have h2 := HSR.out.s0; have h5 := HSR.out.sy; omega
        have hE3 : E ≤ 2000 := by have := HE2.out; omega
        rw [← HL.out] at HS
        clear HSR ht hE hlt hTn hST
        by_cases h1 : S < m
        · have z1 : (S : Int) < (m : Int) := by have := HE2.out; omega
          have n1 : S < m := by have := HE2.out; omega
          by_cases h2 : S < md
          · have z2 : (m : Int) < (E : Int) := by have := HE2.out; omega
            have n2 : m < E := by have := HE2.out; omega
            have z3 : (S : Int) < (md : Int) := by have := HE2.out; omega
            have n3 : S < md := by have := HE2.out; omega
            have z4 : (md : Int) < (E : Int) := by have := HE2.out; omega
            have n4 : md < E := by have := HE2.out; omega
            by_cases h3 : a < S
            · have z5 : (a : Int) < (S : Int) := by have := HE2.out; omega
              have n5 : a < S := by have := HE2.out; omega
              by_cases h4 : E < b
              · have z6 : (E : Int) < (b : Int) := by have := HE2.out; have := HA.out; omega
                have n6 : E < b := by have := HE2.out; have := HA.out; omega
                have HC1 := Hid.intro' (st_rot HNM.out h1 h2 hn (.func (.func 42) #[] #[v1, v2]) HS.out)
                clear HS
                go_wp2_with fail
                refine HC1.out.mono ?_
                rintro e W2 ⟨rfl, hs2⟩
                have HS1 := Hid.intro' hs2
                clear hs2 HC1
                have HC2 := Hid.intro' (st_one HNM.out HIH.out HY.out.1 HY.out.2.1 HY.out.2.2 HO.out h3 h2 _ HS1.out)
                clear HS1
                go_wp2_with fail
                refine HC2.out.mono ?_
                rintro e W3 ⟨rfl, hs3⟩
                have HS2 := Hid.intro' hs3
                clear hs3 HC2
                have HC3 := Hid.intro' (st_two HNM.out HIH.out HY.out.1 HY.out.2.1 HY.out.2.2 HO.out HLO.out.1 HLO.out.2 h1 h4 HS2.out)
                clear HS2
                go_wp2_with fail
                refine HC3.out.mono ?_
                rintro e W4 ⟨rfl, hs4⟩
                have HS3 : Hid (R W4) := by show R W4; rw [HR.out]; exact hs4
                clear hs4 HC3
                go_wp2
                go_end0
                exact ⟨rfl, HS3.out⟩
              · have z6 : ¬ (E : Int) < (b : Int) := by have := HE2.out; omega
                have n6 : ¬ E < b := by have := HE2.out; omega
                have hnt : Hid (S = m ∨ E = b) := .inr (by omega)
                have HC1 := Hid.intro' (st_rot HNM.out h1 h2 hn (.func (.func 42) #[] #[v1, v2]) HS.out)
                clear HS
                go_wp2_with fail
                refine HC1.out.mono ?_
                rintro e W2 ⟨rfl, hs2⟩
                have HS1 := Hid.intro' hs2
                clear hs2 HC1
                have HC2 := Hid.intro' (st_one HNM.out HIH.out HY.out.1 HY.out.2.1 HY.out.2.2 HO.out h3 h2 _ HS1.out)
                clear HS1
                go_wp2_with fail
                refine HC2.out.mono ?_
                rintro e W3 ⟨rfl, hs3⟩
                have HS2 := Hid.intro' hs3
                clear hs3 HC2
                have HS3 : Hid (R W3) := by show R W3; rw [HR.out]; exact st_notwo HNM.out HY.out.1 HY.out.2.1 HY.out.2.2 HLO.out.1 HLO.out.2 hnt.out HS2.out
                clear HS2
                go_wp2
                go_end0
                exact ⟨rfl, HS3.out⟩
            · have z5 : ¬ (a : Int) < (S : Int) := by have := HE2.out; omega
              have n5 : ¬ a < S := by have := HE2.out; omega
              have hno : Hid (S = a ∨ S = md) := .inl (by omega)
              by_cases h4 : E < b
              · have z6 : (E : Int) < (b : Int) := by have := HE2.out; have := HA.out; omega
                have n6 : E < b := by have := HE2.out; have := HA.out; omega
                have HC1 := Hid.intro' (st_rot HNM.out h1 h2 hn (.func (.func 42) #[] #[v1, v2]) HS.out)
                clear HS
                go_wp2_with fail
                refine HC1.out.mono ?_
                rintro e W2 ⟨rfl, hs2⟩
                have HS1 := Hid.intro' hs2
                clear hs2 HC1
                have HS2 := Hid.intro' (st_noone HNM.out HY.out.1 HY.out.2.1 hno.out _ HS1.out)
                clear HS1
                have HC3 := Hid.intro' (st_two HNM.out HIH.out HY.out.1 HY.out.2.1 HY.out.2.2 HO.out HLO.out.1 HLO.out.2 h1 h4 HS2.out)
                clear HS2
                go_wp2_with fail
                refine HC3.out.mono ?_
                rintro e W4 ⟨rfl, hs4⟩
                have HS3 : Hid (R W4) := by show R W4; rw [HR.out]; exact hs4
                clear hs4 HC3
                go_wp2
                go_end0
                exact ⟨rfl, HS3.out⟩
              · have z6 : ¬ (E : Int) < (b : Int) := by have := HE2.out; omega
                have n6 : ¬ E < b := by have := HE2.out; omega
                have hnt : Hid (S = m ∨ E = b) := .inr (by omega)
                have HC1 := Hid.intro' (st_rot HNM.out h1 h2 hn (.func (.func 42) #[] #[v1, v2]) HS.out)
                clear HS
                go_wp2_with fail
                refine HC1.out.mono ?_
                rintro e W2 ⟨rfl, hs2⟩
                have HS1 := Hid.intro' hs2
                clear hs2 HC1
                have HS2 := Hid.intro' (st_noone HNM.out HY.out.1 HY.out.2.1 hno.out _ HS1.out)
                clear HS1
                have HS3 : Hid (R W2) := by show R W2; rw [HR.out]; exact st_notwo HNM.out HY.out.1 HY.out.2.1 HY.out.2.2 HLO.out.1 HLO.out.2 hnt.out HS2.out
                clear HS2
                go_wp2
                go_end0
                exact ⟨rfl, HS3.out⟩
          · have z2 : ¬ (m : Int) < (E : Int) := by have := HE2.out; omega
            have n2 : ¬ m < E := by have := HE2.out; omega
            have z3 : ¬ (S : Int) < (md : Int) := by have := HE2.out; omega
            have n3 : ¬ S < md := by have := HE2.out; omega
            have z4 : (md : Int) < (E : Int) := by have := HE2.out; omega
            have n4 : md < E := by have := HE2.out; omega
            have z5 : (a : Int) < (S : Int) := by have := HE2.out; omega
            have n5 : a < S := by have := HE2.out; omega
            have z6 : (E : Int) < (b : Int) := by have := HE2.out; have := HA.out; omega
            have n6 : E < b := by have := HE2.out; have := HA.out; omega
            have h4 : E < b := by have := HE2.out; have := HA.out; omega
            have hnr : Hid (S = m ∨ S = md) := .inr (by omega)
            have hno : Hid (S = a ∨ S = md) := .inr (by omega)
            have HS1 := Hid.intro' (st_norot HNM.out hnr.out HS.out)
            clear HS
            have HS2 := Hid.intro' (st_noone HNM.out HY.out.1 HY.out.2.1 hno.out _ HS1.out)
            clear HS1
            have HC3 := Hid.intro' (st_two HNM.out HIH.out HY.out.1 HY.out.2.1 HY.out.2.2 HO.out HLO.out.1 HLO.out.2 h1 h4 HS2.out)
            clear HS2
            go_wp2_with fail
            refine HC3.out.mono ?_
            rintro e W4 ⟨rfl, hs4⟩
            have HS3 : Hid (R W4) := by show R W4; rw [HR.out]; exact hs4
            clear hs4 HC3
            go_wp2
            go_end0
            exact ⟨rfl, HS3.out⟩
        · have z1 : ¬ (S : Int) < (m : Int) := by have := HE2.out; omega
          have n1 : ¬ S < m := by have := HE2.out; omega
          have z4 : ¬ (md : Int) < (E : Int) := by have := HE2.out; omega
          have n4 : ¬ md < E := by have := HE2.out; omega
          have z5 : (a : Int) < (S : Int) := by have := HE2.out; omega
          have n5 : a < S := by have := HE2.out; omega
          have h3 : a < S := by omega
          have hnr : Hid (S = m ∨ S = md) := .inl (by omega)
          have hnt : Hid (S = m ∨ E = b) := .inl (by omega)
          by_cases h2 : S < md
          · have z3 : (S : Int) < (md : Int) := by have := HE2.out; omega
            have n3 : S < md := by have := HE2.out; omega
            have HS1 := Hid.intro' (st_norot HNM.out hnr.out HS.out)
            clear HS
            have HC2 := Hid.intro' (st_one HNM.out HIH.out HY.out.1 HY.out.2.1 HY.out.2.2 HO.out h3 h2 _ HS1.out)
            clear HS1
            go_wp2_with fail
            refine HC2.out.mono ?_
            rintro e W3 ⟨rfl, hs3⟩
            have HS2 := Hid.intro' hs3
            clear hs3 HC2
            have HS3 : Hid (R W3) := by show R W3; rw [HR.out]; exact st_notwo HNM.out HY.out.1 HY.out.2.1 HY.out.2.2 HLO.out.1 HLO.out.2 hnt.out HS2.out
            clear HS2
            go_wp2
            go_end0
            exact ⟨rfl, HS3.out⟩
          · have z3 : ¬ (S : Int) < (md : Int) := by have := HE2.out; omega
            have n3 : ¬ S < md := by have := HE2.out; omega
            have hno : Hid (S = a ∨ S = md) := .inr (by omega)
            have HS1 := Hid.intro' (st_norot HNM.out hnr.out HS.out)
            clear HS
            have HS2 := Hid.intro' (st_noone HNM.out HY.out.1 HY.out.2.1 hno.out _ HS1.out)
            clear HS1
            have HS3 : Hid (R wr) := by show R wr; rw [HR.out]; exact st_notwo HNM.out HY.out.1 HY.out.2.1 HY.out.2.2 HLO.out.1 HLO.out.2 hnt.out HS2.out
            clear HS2
            go_wp2
            go_end0
            exact ⟨rfl, HS3.out⟩

end Go.Proofs.Ytdfdkddjkhcgdah
