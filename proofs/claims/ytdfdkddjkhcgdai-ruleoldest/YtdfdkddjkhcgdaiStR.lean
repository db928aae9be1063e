/- Two parts of a row change places. -/
import Derived.Test.YtdfdkddjkhcgdaiPk7
namespace Go.Proofs.Ytdfdkddjkhcgdai
open Go.RowKit Go.Shelf

/-- what is still to change places: F is the end -/
structure Rot (F A X Y D : List Int) (m i j : Nat) : Prop where
  hi : i = X.length
  hj : j = Y.length
  hm : A.length + i = m
  eq : A ++ Y ++ X ++ D = F
section
variable {F A X Y D : List Int} {m i j : Nat}
theorem Rot.more (h : Rot F A X Y D m i j) (hl : j < i) : Rot F (A ++ Y) (X.drop j) (X.take j) D m (i - j) j ∧ A ++ X ++ Y ++ D = A ++ X.take j ++ X.drop j ++ Y ++ D := by
  have e : X.take j ++ X.drop j = X := List.take_append_drop j X
  refine ⟨⟨by rw [List.length_drop, h.hi], by rw [List.length_take]; have := h.hi; omega, by rw [List.length_append]; have := h.hm; have := h.hj; omega, ?_⟩, ?_⟩
  · rw [← h.eq]
    conv => rhs; rw [← e]
    simp only [List.append_assoc]
  · conv => lhs; rw [← e]
    simp only [List.append_assoc]
theorem Rot.less (h : Rot F A X Y D m i j) (hl : i < j) : Rot F A (Y.drop (j - i)) (Y.take (j - i)) (X ++ D) m i (j - i) ∧ A ++ X ++ Y ++ D = A ++ X ++ Y.take (j - i) ++ Y.drop (j - i) ++ D := by
  have e : Y.take (j - i) ++ Y.drop (j - i) = Y := List.take_append_drop (j - i) Y
  refine ⟨⟨by rw [List.length_drop, ← h.hj]; omega, by rw [List.length_take, ← h.hj]; omega, h.hm, ?_⟩, ?_⟩
  · rw [← h.eq]
    conv => rhs; rw [← e]
    simp only [List.append_assoc]
  · conv => lhs; rw [← e]
    simp only [List.append_assoc]
end

set_option maxRecDepth 100000 in
set_option maxHeartbeats 4000000 in
theorem rotate_any (w : World) (B g cap n : Nat) (A X Y D : List Int) (f : Value) (a m b : Nat) (ha : a = A.length) (hm : m = a + X.length) (hb : b = m + Y.length) (hX : 0 < X.length) (hY : 0 < Y.length) (hn : n ≤ 1000) (W : World) (h : Srt w W B g cap n (A ++ X ++ Y ++ D)) :
    Calls Try.prog 41 #[.slice (some ⟨g, 0, none⟩) n cap, .int .i64 (a : Int), .int .i64 (m : Int), .int .i64 (b : Int), f] W fun e W' => e = .returned (.tuple #[]) ∧ Srt w W' B g cap n (A ++ Y ++ X ++ D) := by
  have hbn : b ≤ n := by
    have := h.len
    simp only [List.length_append] at this
    omega
  obtain ⟨F, HF⟩ : ∃ F, Hid (A ++ Y ++ X ++ D = F) := ⟨_, Hid.intro' rfl⟩
  rw [HF.out]
  obtain ⟨i0, hi0⟩ : ∃ i0, i0 = X.length := ⟨_, rfl⟩
  obtain ⟨j0, hj0⟩ : ∃ j0, j0 = Y.length := ⟨_, rfl⟩
  have hm' : m = a + i0 := by omega
  have hb' : b = m + j0 := by omega
  have e1 : (m : Int) - (a : Int) = (i0 : Int) := by omega
  have e2 : (b : Int) - (m : Int) = (j0 : Int) := by omega
  have H0 : Hid (Rot F A X Y D m i0 j0 ∧ Srt w W B g cap n (A ++ X ++ Y ++ D)) := ⟨⟨hi0, hj0, by omega, HF.out⟩, h⟩
  have hi1 : 0 < i0 := by omega
  have hj1 : 0 < j0 := by omega
  have HM := Hid.intro' (And.intro hm' hb')
  have hm1 : m ≤ 1000 := by omega
  have hb1 : b ≤ 1000 := by omega
  have ha1 : a ≤ 1000 := by omega
  have hi2 : i0 ≤ m := by omega
  have hj2 : j0 ≤ 1000 := by omega
  clear ha hm hb hX hY h hi0 hj0 hm' hb'
  go_enter Try.func41, Try.ntmps41
  go_wp2_with fail
  clear e1 e2
  go_loopw [10, 11] (fun iv jv wr => ∃ (i j : Nat), iv = .int .i64 (i : Int) ∧ jv = .int .i64 (j : Int) ∧ 0 < i ∧ 0 < j ∧ i ≤ m ∧ j ≤ 1000 ∧ Hid (∃ A X Y D, Rot F A X Y D m i j ∧ Srt w wr B g cap n (A ++ X ++ Y ++ D))) (fun iv jv _ => (intOf iv).toNat + (intOf jv).toNat)
  case atStart => exact ⟨i0, j0, rfl, rfl, hi1, hj1, hi2, hj2, A, X, Y, D, H0.out⟩
  case round =>
    clear H0 HF hi1 hj1 hi2 hj2 HM
    obtain ⟨i, j, rfl, rfl, hi1, hj1, him, hj2, HR⟩ := hrel
    obtain ⟨A, X, Y, D, hr, hs⟩ := HR.out
    have HQ := Hid.intro' hr
    have HS := Hid.intro' hs
    have hmn : m + j ≤ n := by
      have h1 := hs.len
      simp only [List.length_append] at h1
      have := hr.hi; have := hr.hj; have := hr.hm
      omega
    obtain ⟨p, hp⟩ : ∃ p, p = m - i := ⟨_, rfl⟩
    have ep : (m : Int) - (i : Int) = (p : Int) := by omega
    have HP : Hid (p = A.length) := by show _ = _; have := hr.hm; omega
    have hp1 : p ≤ 1000 := by omega
    clear HR hr hs
    by_cases hne : i = j
    · have hq1 : ((i : Int) != (j : Int)) = false := by simp [hne]
      subst hne
      have HC := Hid.intro' (swapR_any w B g cap n A X [] Y D f p m i HP.out HQ.out.hi (by have := HQ.out.hi; have := HQ.out.hj; omega) (by have := HP.out; have := HQ.out.hm; simp; omega) hn wr (by rw [List.append_nil]; exact HS.out))
      rw [List.append_nil, HQ.out.eq] at HC
      clear hp
      go_wp2_with fail
      refine HC.out.mono ?_
      rintro e W2 ⟨rfl, h2⟩
      have H2 := Hid.intro' h2
      clear h2 HC HS HQ HP
      go_wp2
      go_end0
      exact ⟨rfl, H2.out⟩
    · have hq1 : ((i : Int) != (j : Int)) = true := by simp; omega
      by_cases hlt : j < i
      · have hlz : (j : Int) < (i : Int) := by omega
        obtain ⟨hr2, he⟩ := HQ.out.more hlt
        rw [he] at HS
        have HR2 := Hid.intro' hr2
        obtain ⟨i2, hi2⟩ : ∃ i2, i2 = i - j := ⟨_, rfl⟩
        have ei : (i : Int) - (j : Int) = (i2 : Int) := by omega
        rw [← hi2] at HR2
        have hi3 : 0 < i2 := by omega
        have hi4 : i2 + j = i := by omega
        have HC := Hid.intro' (swapR_any w B g cap n A (X.take j) (X.drop j) Y D f p m j HP.out (HR2.out.hj) (by have := HQ.out.hj; have := HR2.out.hj; omega) (by have := HP.out; have := HQ.out.hm; have := HR2.out.hi; omega) hn wr HS.out)
        clear hp hr2 he hi2
        go_wp2_with fail
        refine HC.out.mono ?_
        rintro e W2 ⟨rfl, h2⟩
        have H2 := Hid.intro' h2
        clear h2 HC HS HQ HP
        go_wp2
        go_roundw
        case rel => exact ⟨i2, j, by go_num, rfl, hi3, hj1, by omega, hj2, A ++ Y, X.drop j, X.take j, D, HR2.out, H2.out⟩
        case measure => simp [intOf]; omega
      · have hlz : ¬ (j : Int) < (i : Int) := by omega
        have hlt2 : i < j := by omega
        obtain ⟨hr2, he⟩ := HQ.out.less hlt2
        rw [he] at HS
        have HR2 := Hid.intro' hr2
        obtain ⟨j2, hj2'⟩ : ∃ j2, j2 = j - i := ⟨_, rfl⟩
        have ej : (j : Int) - (i : Int) = (j2 : Int) := by omega
        rw [← hj2'] at HR2 HS
        have hj3 : 0 < j2 := by omega
        have hj4 : j2 + i = j := by omega
        obtain ⟨q, hq⟩ : ∃ q, q = m + j2 := ⟨_, rfl⟩
        have eq1 : (m : Int) + (j : Int) - (i : Int) = (q : Int) := by omega
        have hqn : q ≤ 1000 := by omega
        have HC := Hid.intro' (swapR_any w B g cap n A X (Y.take j2) (Y.drop j2) D f p q i HP.out HQ.out.hi (by have := HQ.out.hi; have := HR2.out.hi; omega) (by have := HP.out; have := HQ.out.hm; have := HR2.out.hj; omega) hn wr HS.out)
        clear hp hr2 he hj2' hq
        go_wp2_with fail
        refine HC.out.mono ?_
        rintro e W2 ⟨rfl, h2⟩
        have H2 := Hid.intro' h2
        clear h2 HC HS HQ HP
        go_wp2
        go_roundw
        case rel => exact ⟨i, j2, rfl, by go_num, hi1, hj3, him, by omega, A, Y.drop j2, Y.take j2, X ++ D, HR2.out, by
          have h3 := H2.out
          simp only [List.append_assoc] at h3 ⊢
          exact h3⟩
        case measure => simp [intOf]; omega

end Go.Proofs.Ytdfdkddjkhcgdai
