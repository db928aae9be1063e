/- Which of two plans comes first, as the document tells it. -/
import Derived.Test.YtdpfgjipjjkcgafPlV
namespace Go.Proofs.Ytdpfgjipjjkcgaf
open Go.RowKit

theorem lx_drop {x y : List Int} {i : Nat} {a : Int} (hx : x[i]? = some a) (hy : y[i]? = some a) : PM.lx (x.drop i) (y.drop i) = PM.lx (x.drop (i + 1)) (y.drop (i + 1)) := by
  rw [drop_cons hx, drop_cons hy]; simp [PM.lx]
theorem lx_at {x y : List Int} {i : Nat} {a b : Int} (hx : x[i]? = some a) (hy : y[i]? = some b) (hne : a ≠ b) : PM.lx (x.drop i) (y.drop i) = decide (a < b) := by
  rw [drop_cons hx, drop_cons hy]; simp [PM.lx, hne]
theorem lx_end {x y : List Int} {i : Nat} (hi : x.length ≤ i ∨ y.length ≤ i) (hx : i ≤ x.length) (hy : i ≤ y.length) : PM.lx (x.drop i) (y.drop i) = decide (x.length < y.length) := by
  rcases hi with h | h
  · rw [List.drop_of_length_le h]
    by_cases h2 : y.length ≤ i
    · rw [List.drop_of_length_le h2, decide_eq_false (by omega)]; rfl
    · rw [List.drop_eq_getElem_cons (by omega), decide_eq_true (by omega)]; rfl
  · have hy0 : y.drop i = [] := List.drop_of_length_le h
    rw [hy0]
    by_cases h2 : x.length ≤ i
    · rw [List.drop_of_length_le h2, decide_eq_false (by omega)]; rfl
    · rw [List.drop_eq_getElem_cons (by omega), decide_eq_false (by omega)]; rfl

/-- two rows of numbers -/
structure Tr (w W : World) (u v : Value) (x y : List Int) : Prop where
  ox : RI (fun _ => True) W u x
  oy : RI (fun _ => True) W v y
  bel : Below w.heap.size w W
theorem Tr.drewN {w W : World} {u v : Value} {x y : List Int} (h : Tr w W u v x y) (n : Nat) : Tr w (W.drewN n) u v x y :=
  ⟨h.ox.below' (below_drewN (Below.refl _ _) n), h.oy.below' (below_drewN (Below.refl _ _) n), below_drewN h.bel n⟩

set_option maxHeartbeats 4000000 in
theorem less_any (D : Nat → Prop) (va vb : Value) (a b : List (List Int)) (m : Nat) (w : World) (ha : RL D w va a) (hb : RL D w vb b) (sa : Sm a) (sb : Sm b) (la : a.length ≤ 100) (lb : b.length ≤ 100) :
    Calls Try.prog 10 #[va, vb, .int .i64 (m : Int)] w fun e w' => e = .returned (.bool (PM.lx (PM.wr m a) (PM.wr m b))) ∧ Below w.heap.size w w' := by
  have HA := Hid.intro' (written_any D va a m w ha sa la)
  have HB : Hid (∀ W, Below w.heap.size w W → Calls Try.prog 23 #[vb, .int .i64 (m : Int)] W fun e w' => ∃ v', e = .returned v' ∧ OI w' W.heap.size v' (PM.wr m b) ∧ Below W.heap.size W w') := fun W h => written_any D vb b m W (hb.below' h) sb lb
  have HX : Hid ((PM.wr m a).length ≤ 110000) := by
    have := wr_len (m := m) sa a.length
    rw [List.take_length] at this
    show _ ≤ _
    omega
  have HY : Hid ((PM.wr m b).length ≤ 110000) := by
    have := wr_len (m := m) sb b.length
    rw [List.take_length] at this
    show _ ≤ _
    omega
  clear ha hb sa sb la lb
  generalize PM.wr m a = x at HA HX ⊢
  generalize PM.wr m b = y at HB HY ⊢
  go_enter Try.func10, Try.ntmps10
  go_wp2_with fail
  refine HA.out.mono ?_
  rintro e W1 ⟨u, rfl, ho1, hb1⟩
  have HO1 := Hid.intro' (ho1.ri (D := fun _ => True) fun _ _ => trivial)
  have HB1 := Hid.intro' hb1
  clear ho1 hb1 HA
  go_wp2_with fail
  refine (HB.out W1 HB1.out).mono ?_
  rintro e W2 ⟨v, rfl, ho2, hb2⟩
  have HT : Hid (Tr w W2 u v x y) := ⟨HO1.out.below' hb2, ho2.ri (D := fun _ => True) fun _ _ => trivial, below_class HB1.out hb2⟩
  clear ho2 hb2 HB HO1 HB1
  obtain ⟨au, ku, rfl, _, _⟩ := HT.out.ox.form
  obtain ⟨av, kv, rfl, _, _⟩ := HT.out.oy.form
  have hxz : (x.length : Int) ≤ 110000 := by have := HX.out; omega
  have hyz : (y.length : Int) ≤ 110000 := by have := HY.out; omega
  go_wp2_with fail
  go_loopw [9] (fun i wr => ∃ k : Nat, k ≤ x.length ∧ k ≤ y.length ∧ i = .int .i64 (k : Int) ∧ Hid (Tr w wr (.slice au x.length ku) (.slice av y.length kv) x y) ∧ Hid (PM.lx x y = PM.lx (x.drop k) (y.drop k))) (fun i _ => x.length - (intOf i).toNat)
  case atStart => exact ⟨0, Nat.zero_le _, Nat.zero_le _, rfl, HT, rfl⟩
  case round =>
    clear HT
    obtain ⟨k, hkx, hky, rfl, HT, HE⟩ := hrel
    by_cases hlx : k < x.length
    · have h1 : (k : Int) < (x.length : Int) := by omega
      by_cases hly : k < y.length
      · have h2 : (k : Int) < (y.length : Int) := by omega
        obtain ⟨p, hp⟩ : ∃ p, x[k]? = some p := ⟨_, List.getElem?_eq_getElem hlx⟩
        obtain ⟨q, hq⟩ : ∃ q, y[k]? = some q := ⟨_, List.getElem?_eq_getElem hly⟩
        obtain ⟨gu, ou, rfl, cu⟩ := HT.out.ox.at hp
        obtain ⟨gv, ov, rfl, cv⟩ := HT.out.oy.at hq
        have HPp := Hid.intro' hp
        have HQq := Hid.intro' hq
        clear hp hq
        by_cases hpq : p = q
        · have HD := Hid.intro' (lx_drop HPp.out (hpq ▸ HQq.out))
          have q1 : (p != q) = false := by simp [hpq]
          clear hpq
          go_wp2_with fail
          go_quiet (fail)
          have HT2 := Hid.intro' (HT.out.drewN nq)
          generalize wr.drewN nq = W5 at HT2 ⊢
          clear HT cu cv
          go_wp2
          go_roundw
          case rel => exact ⟨k + 1, by omega, by omega, by go_num, HT2, (show _ = _ by rw [HE.out, HD.out])⟩
          case measure => simp [intOf]; omega
        · have HD := Hid.intro' (lx_at HPp.out HQq.out hpq)
          have q1 : (p != q) = true := by simp [hpq]
          clear hpq
          go_wp2_with fail
          go_quiet (fail)
          have cu2 : (wr.drewN nq).cell? ⟨gu, ou + k, none⟩ = some (.int .i64 p) := cu
          have cv2 : (wr.drewN nq).cell? ⟨gv, ov + k, none⟩ = some (.int .i64 q) := cv
          have HT2 := Hid.intro' (HT.out.drewN nq)
          generalize wr.drewN nq = W5 at HT2 cu2 cv2 ⊢
          clear HT cu cv
          go_wp2_with fail
          go_quiet (fail)
          have HB3 := Hid.intro' (HT2.out.drewN nq).bel
          generalize W5.drewN nq = W6 at HB3 ⊢
          go_wp2
          go_ret
          exact ⟨ret_bool (by rw [HE.out, HD.out]), HB3.out⟩
      · have h2 : ¬ (k : Int) < (y.length : Int) := by omega
        have HD := Hid.intro' (lx_end (x := x) (y := y) (.inr (by omega)) hkx hky)
        go_wp2
        go_ret
        refine ⟨ret_bool ?_, HT.out.bel⟩
        rw [HE.out, HD.out]
    · have h1 : ¬ (k : Int) < (x.length : Int) := by omega
      have HD := Hid.intro' (lx_end (x := x) (y := y) (.inl (by omega)) hkx hky)
      go_wp2
      go_ret
      refine ⟨ret_bool ?_, HT.out.bel⟩
      rw [HE.out, HD.out]

end Go.Proofs.Ytdpfgjipjjkcgaf
