/- Whether a plan begins so, as the program tells it. -/
import Derived.Test.YtkcppidmbojglagBdE
import Derived.Test.YtkcppidmbojglagBdX
import Derived.Test.YtkcppidmbojglagRtJ
namespace Go.Proofs.Ytkcppidmbojglag
open Go.RowKit

set_option maxHeartbeats 4000000 in
theorem equalI_any (D D' : Nat → Prop) (va vb : Value) (l m : List Int) (w : World) (ha : RI D w va l) (hb : RI D' w vb m) (hl : l.length ≤ 100000) :
    Calls Try.prog 17 #[va, vb] w fun e w' => e = .returned (.bool (decide (l = m))) ∧ Below w.heap.size w w' := by
  have HA := Hid.intro' ha
  have HB := Hid.intro' hb
  obtain ⟨aa, ka, rfl, _, _⟩ := ha.form
  obtain ⟨ab, kb, rfl, _, _⟩ := hb.form
  clear ha hb
  by_cases hlen : l.length = m.length
  · have hlz : (l.length : Int) = (m.length : Int) := by omega
    have HLN := Hid.intro' hlen
    have q0 : ((l.length : Int) != (m.length : Int)) = false := by simp; omega
    clear hlen hlz
    go_enter Try.func17, Try.ntmps17
    go_wp2_with fail
    clear q0
    go_loopw [13] (fun i wr => ∃ j : Nat, j ≤ l.length ∧ i = .int .i64 (j : Int) ∧ Hid (Below w.heap.size w wr) ∧ Hid (l.take j = m.take j)) (fun i _ => l.length - (intOf i).toNat)
    case atStart => exact ⟨0, Nat.zero_le _, rfl, Below.refl _ _, rfl⟩
    case round =>
      obtain ⟨j, hj, rfl, HW, HT⟩ := hrel
      by_cases hlt : j < l.length
      · have hjz : (j : Int) < (l.length : Int) := by omega
        have hjm : (j : Int) < (m.length : Int) := by have := HLN.out; omega
        obtain ⟨x, hx⟩ : ∃ x, l[j]? = some x := ⟨_, List.getElem?_eq_getElem hlt⟩
        obtain ⟨y, hy⟩ : ∃ y, m[j]? = some y := ⟨_, List.getElem?_eq_getElem (by have := HLN.out; omega)⟩
        obtain ⟨ga, oa, rfl, hcx⟩ := (HA.out.below' HW.out).at hx
        obtain ⟨gb, ob, rfl, hcy⟩ := (HB.out.below' HW.out).at hy
        have HX := Hid.intro' hx
        have HY := Hid.intro' hy
        clear hx hy
        by_cases he : x = y
        · have HT2 : Hid (l.take (j + 1) = m.take (j + 1)) := by
            show _ = _
            rw [take_snoc HX.out, take_snoc HY.out, HT.out, he]
          have q1 : (x != y) = false := by simp [he]
          clear he
          go_wp2_with fail
          go_region
          go_wp2
          go_roundw
          case rel => exact ⟨j + 1, by omega, by go_num, HW.out.drew, HT2⟩
          case measure => simp [intOf]; omega
        · have q1 : (x != y) = true := by simp [he]
          have HNE : Hid (decide (l = m) = false) := by
            show _ = _
            rw [decide_eq_false_iff_not]
            intro e
            have h1 := HX.out
            rw [e, HY.out] at h1
            cases h1
            exact he rfl
          clear he
          go_wp2_with fail
          go_region
          go_wp2
          go_ret
          exact ⟨ret_bool HNE.out.symm, HW.out.drew⟩
      · have hjz : ¬ (j : Int) < (l.length : Int) := by omega
        have HE : Hid (decide (l = m) = true) := by
          show _ = _
          have h1 := HT.out
          rw [List.take_of_length_le (by omega), List.take_of_length_le (by have := HLN.out; omega)] at h1
          rw [decide_eq_true_eq]; exact h1
        go_wp2
        go_ret
        exact ⟨ret_bool HE.out.symm, HW.out⟩
  · have q0 : ((l.length : Int) != (m.length : Int)) = true := by simp; omega
    have HNE : Hid (decide (l = m) = false) := by
      show _ = _
      rw [decide_eq_false_iff_not]
      exact fun e => hlen (by rw [e])
    clear hlen
    go_enter Try.func17, Try.ntmps17
    go_wp2
    go_ret
    exact ⟨ret_bool HNE.out.symm, Below.refl _ _⟩

/-- the first lists of a plan -/
theorem RL.cut {D : Nat → Prop} {W : World} {a : Option Addr} {n cap j : Nat} {p : List (List Int)} (h : RL D W (.slice a n cap) p) (hj : j ≤ p.length) : RL D W (.slice a j cap) (p.take j) := by
  obtain ⟨a', c, e, h1, h2, h3⟩ := h
  cases e
  have hlen : (p.take j).length = j := by rw [List.length_take]; omega
  refine ⟨_, _, by rw [hlen], by omega, h2, ?_⟩
  rcases h3 with h3 | ⟨g', o', e, hd, hlt, h4⟩
  · left; rw [h3]; simp
  · cases e
    exact .inr ⟨g', o', rfl, hd, hlt, fun i x hx => h4 i x (by
      rw [List.getElem?_take] at hx
      split at hx
      · exact hx
      · cases hx)⟩
theorem slice_cutP (aa : Option Addr) (La ac n : Nat) (w : World) (hn : n ≤ ac) : (Instr.sliceAt 29 (.slice aa La ac) none (some (.int .i64 (n : Int))) none).run Try.prog w = .ok (.slice aa n ac) w := by
  have h1 : (n : Int) ≤ (ac : Int) := by omega
  cases aa <;> simp [go_sem, h1]
theorem calm_cutP {W0 : World} {K : Act → Prop} {o : Oper} {a : Act} (x y : Operand) {aa : Option Addr} {n cap j : Nat} (ho : o.op = .slice 29 x none (some y) none) (hx : a.eval x = .slice aa n cap) (hy : a.eval y = .int .i64 (j : Int)) (hj : j ≤ cap)
    (h : K (a.put o.dst (.slice aa j cap))) : Oper.calm Try.prog W0 o a K :=
  calm_val _ (fun w hw => by unfold execOp; simp only [ho, hx, hy, Option.map_none, Option.map_some, Sem.run_bind, Sem.run_pure, Result.andThen_ok, slice_cutP aa n cap j w hj]) h
set_option maxHeartbeats 4000000 in
theorem equalFunc_any (D : Nat → Prop) (va vb : Value) (p q : List (List Int)) (w : World) (ha : RL D w va p) (hb : RL D w vb q) (hpl : p.length ≤ 100000) (hll : ∀ l ∈ p, l.length ≤ 100000) :
    Calls Try.prog 16 #[va, vb, .func (.func 17) #[] #[]] w fun e w' => e = .returned (.bool (decide (p = q))) ∧ Below w.heap.size w w' := by
  have HA := Hid.intro' ha
  have HB := Hid.intro' hb
  have HLL := Hid.intro' hll
  obtain ⟨aa, ka, rfl, _, _⟩ := ha.form
  obtain ⟨ab, kb, rfl, _, _⟩ := hb.form
  clear ha hb hll
  by_cases hlen : p.length = q.length
  · have HLN := Hid.intro' hlen
    have q0 : ((p.length : Int) != (q.length : Int)) = false := by simp; omega
    clear hlen
    go_enter Try.func16, Try.ntmps16
    go_wp2_with fail
    clear q0
    go_loopw [17] (fun i wr => ∃ j : Nat, j ≤ p.length ∧ i = .int .i64 (j : Int) ∧ Hid (Below w.heap.size w wr) ∧ Hid (p.take j = q.take j)) (fun i _ => p.length - (intOf i).toNat)
    case atStart => exact ⟨0, Nat.zero_le _, rfl, Below.refl _ _, rfl⟩
    case round =>
      obtain ⟨j, hj, rfl, HW, HT⟩ := hrel
      by_cases hlt : j < p.length
      · have hjz : (j : Int) < (p.length : Int) := by omega
        have hjm : (j : Int) < (q.length : Int) := by have := HLN.out; omega
        obtain ⟨x, hx⟩ : ∃ x, p[j]? = some x := ⟨_, List.getElem?_eq_getElem hlt⟩
        obtain ⟨y, hy⟩ : ∃ y, q[j]? = some y := ⟨_, List.getElem?_eq_getElem (by have := HLN.out; omega)⟩
        obtain ⟨ga, oa, rfl, u, hcu, hru⟩ := (HA.out.below' HW.out).at hx
        obtain ⟨gb, ob, rfl, v, hcv, hrv⟩ := (HB.out.below' HW.out).at hy
        have HEQ := Hid.intro' (equalI_any D D u v x y wr hru hrv (HLL.out x (List.mem_of_getElem? hx)))
        have HX := Hid.intro' hx
        have HY := Hid.intro' hy
        clear hx hy hru hrv
        go_wp2_with fail
        refine HEQ.out.mono ?_
        rintro e W2 ⟨rfl, hb2⟩
        have HW2 := Hid.intro' (below_class HW.out hb2)
        clear hb2 HEQ hcu hcv
        by_cases he : x = y
        · have HT2 : Hid (p.take (j + 1) = q.take (j + 1)) := by
            show _ = _
            rw [take_snoc HX.out, take_snoc HY.out, HT.out, he]
          rw [show decide (x = y) = true from decide_eq_true he]
          clear he
          go_wp2
          go_roundw
          case rel => exact ⟨j + 1, by omega, by go_num, HW2, HT2⟩
          case measure => simp [intOf]; omega
        · have HNE : Hid (decide (p = q) = false) := by
            show _ = _
            rw [decide_eq_false_iff_not]
            intro e
            have h1 := HX.out
            rw [e, HY.out] at h1
            cases h1
            exact he rfl
          rw [show decide (x = y) = false from decide_eq_false he]
          clear he
          go_wp2
          go_ret
          exact ⟨ret_bool HNE.out.symm, HW2.out⟩
      · have hjz : ¬ (j : Int) < (p.length : Int) := by omega
        have HE : Hid (decide (p = q) = true) := by
          show _ = _
          have h1 := HT.out
          rw [List.take_of_length_le (by omega), List.take_of_length_le (by have := HLN.out; omega)] at h1
          rw [decide_eq_true_eq]; exact h1
        go_wp2
        go_ret
        exact ⟨ret_bool HE.out.symm, HW.out⟩
  · have q0 : ((p.length : Int) != (q.length : Int)) = true := by simp; omega
    have HNE : Hid (decide (p = q) = false) := by
      show _ = _
      rw [decide_eq_false_iff_not]
      exact fun e => hlen (by rw [e])
    clear hlen
    go_enter Try.func16, Try.ntmps16
    go_wp2
    go_ret
    exact ⟨ret_bool HNE.out.symm, Below.refl _ _⟩

end Go.Proofs.Ytkcppidmbojglag
