/- Frames as bytes: the ways of Encode; the document's May and Bytes; whether bytes are the same. -/
import Derived.Test.YtkbfljacjfaamaeFrD
import Derived.Laws.BytesArg
namespace Go.Proofs.Ytkbfljacjfaamae
open Go.RowKit

theorem encode_yes (f : Fr) (w : World) (h : FC.May f) :
    Calls Try.prog 6 #[.agg #[.int .i64 f.ki, .int .i64 f.ca, .int .i64 f.sq, .int .i64 f.a, .int .i64 f.b, .int .i64 f.c]] w fun e w' => ∃ v, e = .returned (.tuple #[v, .int .i64 0]) ∧ OW w' w.heap.size v (FC.en f) ∧ Below w.heap.size w w' := by
  obtain ⟨ki, ca, sq, a, b, c⟩ := f
  obtain ⟨h1, h2, h3, h4, h5, h6, h7, h8, h9, h10, h11, h12⟩ := h
  simp only at h1 h2 h3 h4 h5 h6 h7 h8 h9 h10 h11 h12
  obtain ⟨ki, rfl⟩ := Int.eq_ofNat_of_zero_le (show 0 ≤ ki by omega)
  obtain ⟨ca, rfl⟩ := Int.eq_ofNat_of_zero_le (show 0 ≤ ca by omega)
  obtain ⟨sq, rfl⟩ := Int.eq_ofNat_of_zero_le (show 0 ≤ sq by omega)
  obtain ⟨a, rfl⟩ := Int.eq_ofNat_of_zero_le (show 0 ≤ a by omega)
  obtain ⟨b, rfl⟩ := Int.eq_ofNat_of_zero_le (show 0 ≤ b by omega)
  obtain ⟨c, rfl⟩ := Int.eq_ofNat_of_zero_le (show 0 ≤ c by omega)
  exact encode_nat ki ca sq a b c w (by omega) (by omega) (by omega) (by omega) (by omega) (by omega) (by omega)

set_option maxHeartbeats 1000000 in
theorem encode_no (f : Fr) (w : World) (h : ¬ FC.May f) : Calls Try.prog 6 #[.agg #[.int .i64 f.ki, .int .i64 f.ca, .int .i64 f.sq, .int .i64 f.a, .int .i64 f.b, .int .i64 f.c]] w fun e w' => e = .returned (.tuple #[.slice none 0 0, .int .i64 1]) ∧ Below w.heap.size w w' := by
  have hm : mayB f = false := by rw [Bool.eq_false_iff]; exact fun e => h ((mayB_iff f).1 e)
  unfold mayB at hm
  have HF0 := Hid.intro' (FB.new w f)
  have HB0 := Hid.intro' ((Below.refl w.heap.size w).alloc (Nat.le_refl _) (.cells #[.int .i64 f.ki, .int .i64 f.ca, .int .i64 f.sq, .int .i64 f.a, .int .i64 f.b, .int .i64 f.c] 26))
  go_enter Try.func6, Try.ntmps6
  go_wp2_with fail
  refine (isKind_any _ _).mono ?_
  rintro e W1 ⟨rfl, hb1⟩
  have HF1 := Hid.intro' (HF0.out.below' hb1)
  have HB1 := Hid.intro' (below_class HB0.out hb1)
  clear hb1 HF0 HB0
  cases h1 : inB 1 3 [f.ki] with
  | false =>
    go_wp2
    go_ret2
    exact ⟨rfl, HB1.out⟩
  | true =>
    rw [h1, Bool.true_and] at hm
    have c1 := HF1.out.c1
    have c3 := HF1.out.c3
    have c4 := HF1.out.c4
    have c5 := HF1.out.c5
    have HM := Hid.intro' hm
    clear hm
    go_wp2_with fail
    refine (within_any 0 255 [f.ca, f.a, f.b, f.c] W1.heap.size 4 _ rfl (by omega) (fresh_ints W1 3 _)).mono ?_
    rintro e W2 ⟨rfl, hW⟩
    have HF2 : Hid (FB W2 w.heap.size f) := by rw [hW]; exact HF1.out.alloc _
    have HB2 : Hid (Below w.heap.size w W2) := by rw [hW]; exact HB1.out.alloc HB1.out.size _
    clear c1 c3 c4 c5 HF1 HB1 hW
    cases h2 : inB 0 255 [f.ca, f.a, f.b, f.c] with
    | false =>
      go_wp2
      go_ret2
      exact ⟨rfl, HB2.out⟩
    | true =>
      have h3 : inB 0 65535 [f.sq] = false := by have := HM.out; rw [h2, Bool.true_and] at this; exact this
      have c2 := HF2.out.c2
      go_wp2_with fail
      refine (within_any 0 65535 [f.sq] W2.heap.size 1 _ rfl (by omega) (fresh_ints W2 3 _)).mono ?_
      rintro e W3 ⟨rfl, hW⟩
      have HB3 : Hid (Below w.heap.size w W3) := by rw [hW]; exact HB2.out.alloc HB2.out.size _
      clear c2 HF2 HB2 hW
      go_wp2
      go_ret2
      exact ⟨rfl, HB3.out⟩

set_option maxHeartbeats 1000000 in
theorem may_any (f : Fr) (w : World) : Calls Try.prog 7 #[.agg #[.int .i64 f.ki, .int .i64 f.ca, .int .i64 f.sq, .int .i64 f.a, .int .i64 f.b, .int .i64 f.c]] w fun e w' => e = .returned (.bool (mayB f)) ∧ Below w.heap.size w w' := by
  have HM : Hid (mayB f = true ↔ FC.May f) := mayB_iff f
  have HF0 := Hid.intro' ((FB.new w f).alloc (.cells #[.int .i64 f.ca, .int .i64 f.a, .int .i64 f.b, .int .i64 f.c] 3))
  have HI := Hid.intro' (fresh_ints (w.alloc (.cells #[.int .i64 f.ki, .int .i64 f.ca, .int .i64 f.sq, .int .i64 f.a, .int .i64 f.b, .int .i64 f.c] 26)) 3 [f.ca, f.a, f.b, f.c])
  have HB0 := Hid.intro' (((Below.refl w.heap.size w).alloc (Nat.le_refl _) (.cells #[.int .i64 f.ki, .int .i64 f.ca, .int .i64 f.sq, .int .i64 f.a, .int .i64 f.b, .int .i64 f.c] 26)).alloc (by simp) (.cells #[.int .i64 f.ca, .int .i64 f.a, .int .i64 f.b, .int .i64 f.c] 3))
  have hno : ∀ z ∈ [f.ca, f.a, f.b, f.c], ¬ (0 ≤ z ∧ z ≤ 255) → mayB f = false := fun z hz hn => by
    rw [Bool.eq_false_iff]; intro e
    unfold mayB at e
    simp only [Bool.and_eq_true] at e
    exact hn (inB_iff.1 e.1.2 z hz)
  have HNO := Hid.intro' hno
  clear hno
  go_enter Try.func7, Try.ntmps7
  go_wp2
  have HI' : Hid (∀ i z, [f.ca, f.a, f.b, f.c][i]? = some z → ((w.alloc (.cells #[.int .i64 f.ki, .int .i64 f.ca, .int .i64 f.sq, .int .i64 f.a, .int .i64 f.b, .int .i64 f.c] 26)).alloc (.cells #[.int .i64 f.ca, .int .i64 f.a, .int .i64 f.b, .int .i64 f.c] 3)).cell? ⟨w.heap.size + 1, i, none⟩ = some (.int .i64 z)) := by
    have := HI.out
    rw [World.size_alloc] at this
    exact this
  clear HI
  generalize (w.alloc (.cells #[.int .i64 f.ki, .int .i64 f.ca, .int .i64 f.sq, .int .i64 f.a, .int .i64 f.b, .int .i64 f.c] 26)).alloc (.cells #[.int .i64 f.ca, .int .i64 f.a, .int .i64 f.b, .int .i64 f.c] 3) = W1 at HF0 HI' HB0 ⊢
  go_loop [4] (fun i => ∃ k : Nat, k ≤ 4 ∧ i = .int .i64 k ∧ Hid (∀ (j : Nat) z, j < k → [f.ca, f.a, f.b, f.c][j]? = some z → 0 ≤ z ∧ z ≤ 255)) (fun i => 4 - (intOf i).toNat)
  case atStart => exact ⟨0, Nat.zero_le _, rfl, fun j z hj => absurd hj (by omega)⟩
  case round =>
    obtain ⟨k, hk, rfl, HP⟩ := hrel
    by_cases hlt : k < 4
    · have hkz : (k : Int) < 4 := by omega
      obtain ⟨x, hx⟩ : ∃ x, [f.ca, f.a, f.b, f.c][k]? = some x := ⟨_, List.getElem?_eq_getElem (by simpa using hlt)⟩
      have hcell := HI'.out k x hx
      have HX := Hid.intro' hx
      clear hx
      by_cases h1 : x < 0
      · go_wp2
        go_ret
        have := HNO.out x (List.mem_of_getElem? HX.out) (by omega)
        rw [this]
        exact ⟨rfl, HB0.out⟩
      · by_cases h2 : 255 < x
        · go_wp2
          go_ret
          have := HNO.out x (List.mem_of_getElem? HX.out) (by omega)
          rw [this]
          exact ⟨rfl, HB0.out⟩
        · go_wp2
          go_round
          case rel =>
            refine ⟨k + 1, by omega, by go_num, fun j z hj hz => ?_⟩
            by_cases e : j = k
            · subst e
              rw [HX.out] at hz
              cases hz
              omega
            · exact HP.out j z (by omega) hz
          case measure => simp [intOf]; omega
    · have hkz : ¬ (k : Int) < 4 := by omega
      obtain rfl : k = 4 := by omega
      have c0 := HF0.out.c0
      have c2 := HF0.out.c2
      have h25 : inB 0 255 [f.ca, f.a, f.b, f.c] = true := inB_get.2 fun i z hz => HP.out i z (by have := (List.getElem?_eq_some_iff.1 hz).1; simpa using this) hz
      have HE : Hid (mayB f = (decide (1 ≤ f.ki) && decide (f.ki ≤ 3) && (decide (0 ≤ f.sq) && decide (f.sq ≤ 65535)))) := by
        show mayB f = _
        unfold mayB
        rw [h25]
        simp [inB]
      clear h25
      by_cases a1 : 1 ≤ f.ki
      · by_cases a2 : f.ki ≤ 3
        · by_cases a3 : 0 ≤ f.sq
          · by_cases a4 : f.sq ≤ 65535
            · go_wp2
              go_ret
              refine ⟨?_, HB0.out⟩
              rw [HE.out]; simp [a1, a2, a3, a4]
            · go_wp2
              go_ret
              refine ⟨?_, HB0.out⟩
              rw [HE.out]; simp [a1, a2, a3]; omega
          · go_wp2
            go_ret
            refine ⟨?_, HB0.out⟩
            rw [HE.out]; simp [a1, a2]; omega
        · go_wp2
          go_ret
          refine ⟨?_, HB0.out⟩
          rw [HE.out]; simp [a1]; omega
      · go_wp2
        go_ret
        refine ⟨?_, HB0.out⟩
        rw [HE.out]; simp; omega

end Go.Proofs.Ytkbfljacjfaamae
