/- Which snapshots are right, as the document tells it. -/
import Derived.Test.YtdfdkddjkhcgdaiPlT
namespace Go.Proofs.Ytdfdkddjkhcgdai
open Go.RowKit

/-- what holds while the document looks at a snapshot -/
structure Ry (w W : World) (s : Sn) (D : Nat → Prop) (vc vw : Value) : Prop where
  nb : NB W w.heap.size s.st vc vw
  rc : R2 D W vc s.cs
  rw : R2 D W vw s.ws
  bel : Below w.heap.size w W
theorem Ry.next {w W W' : World} {s : Sn} {D : Nat → Prop} {vc vw : Value} (h : Ry w W s D vc vw) (hb : Below W.heap.size W W') : Ry w W' s D vc vw :=
  ⟨h.nb.below' hb, h.rc.below' hb, h.rw.below' hb, below_class h.bel hb⟩
theorem Ry.alloc {w W : World} {s : Sn} {D : Nat → Prop} {vc vw : Value} (h : Ry w W s D vc vw) (o : Obj) : Ry w (W.alloc o) s D vc vw := h.next ((Below.refl _ _).alloc (Nat.le_refl _) o)
theorem cok_iff {fl : Int} {x : Int × Int} : cok fl x = true ↔ 0 ≤ x.1 ∧ x.1 < fl ∧ 0 ≤ x.2 ∧ x.2 ≤ 1000000 := by unfold cok; simp [and_assoc]
theorem wok_iff {fl : Int} {n : Nat} {x : Int × Int} : wok fl n x = true ↔ 0 ≤ x.1 ∧ x.1 < fl ∧ 0 < x.2 ∧ x.2 < 2 ^ n := by unfold wok; simp [and_assoc]

set_option maxHeartbeats 4000000 in
theorem rsnapRight_any (s : Sn) (D : Nat → Prop) (vc vw : Value) (w : World) (hc : R2 D w vc s.cs) (hw : R2 D w vw s.ws) :
    Calls Try.prog 10 #[.agg (nv s.st vc vw).toArray] w fun e w' => e = .returned (.bool (rgt s)) ∧ Below w.heap.size w w' := by
  have HQ0 : Hid (Ry w (w.alloc (.cells (nv s.st vc vw).toArray 36)) s D vc vw) := by
    have hb := (Below.refl w.heap.size w).alloc (Nat.le_refl _) (.cells (nv s.st vc vw).toArray 36)
    exact ⟨NB.new w s.st vc vw, hc.below' hb, hw.below' hb, hb⟩
  obtain ⟨ac, kc, rfl, _, _⟩ := hc.form
  obtain ⟨aw, kw, rfl, _, _⟩ := hw.form
  clear hc hw
  go_enter Try.func10, Try.ntmps10
  go_wp2_with (refine wpList_load23n rfl _ rfl w.heap.size s.st _ _ rfl HQ0.out.nb ?_)
  refine (rright_any s.st _).mono ?_
  rintro e W1 ⟨rfl, hb1⟩
  have HQ := Hid.intro' (HQ0.out.next hb1)
  clear hb1 HQ0
  cases hr : rightB s.st with
  | false =>
    go_wp2
    go_ret
    exact ⟨ret_bool (by unfold rgt; rw [hr]; rfl), HQ.out.bel⟩
  | true =>
    have c1 : W1.cell? ⟨w.heap.size, 1, none⟩ = some (.int .i64 s.st.ca) := HQ.out.nb.cell 1
    have c13 : W1.cell? ⟨w.heap.size, 13, none⟩ = some (.slice ac s.cs.length kc) := HQ.out.nb.cell 13
    have c14 : W1.cell? ⟨w.heap.size, 14, none⟩ = some (.slice aw s.ws.length kw) := HQ.out.nb.cell 14
    by_cases h1 : (s.cs.length : Int) = s.st.ca
    · by_cases h2 : s.ws.length ≤ 128
      · have hb1 : ((s.cs.length : Int) != s.st.ca) = false := by simp [h1]
        have hb2 : decide ((128 : Int) < (s.ws.length : Int)) = false := decide_eq_false (by omega)
        obtain ⟨n, hn8, hn1, hca⟩ := ca_nat ((rightB_iff _).1 hr)
        have H1 := Hid.intro' (show s.cs.length = n by omega)
        have HCA := Hid.intro' hca
        have HR := Hid.intro' hr
        have hc8 : (s.cs.length : Int) ≤ 8 := by omega
        clear h1 hr hca
        go_wp2_with fail
        clear c1 c13 c14
        go_loopw [3] (fun i wr => ∃ k : Nat, k ≤ s.cs.length ∧ i = .int .i64 (k : Int) ∧ Hid (Ry w wr s D (.slice ac s.cs.length kc) (.slice aw s.ws.length kw)) ∧ Hid ((s.cs.take k).all (cok s.st.fl) = true)) (fun i _ => s.cs.length - (intOf i).toNat)
        case atStart => exact ⟨0, Nat.zero_le _, rfl, HQ, rfl⟩
        case round =>
          obtain ⟨k, hk, rfl, HQr, HA⟩ := hrel
          clear HQ
          have c13 : wr.cell? ⟨w.heap.size, 13, none⟩ = some (.slice ac s.cs.length kc) := HQr.out.nb.cell 13
          by_cases hlt : k < s.cs.length
          · have hkz : (k : Int) < (s.cs.length : Int) := by omega
            obtain ⟨y, hy⟩ : ∃ y, s.cs[k]? = some y := ⟨_, List.getElem?_eq_getElem hlt⟩
            obtain ⟨gb, o, rfl, e0, e1⟩ := HQr.out.rc.at hy
            have HY := Hid.intro' hy
            have HQ2 := Hid.intro' (HQr.out.alloc (.cells #[.int .i64 y.1, .int .i64 y.2] 48))
            have f0 : (wr.alloc (.cells #[.int .i64 y.1, .int .i64 y.2] 48)).cell? ⟨w.heap.size, 0, none⟩ = some (.int .i64 s.st.fl) := HQ2.out.nb.cell 0
            clear hy
            cases hq : cok s.st.fl y with
            | true =>
              have hok := cok_iff.1 hq
              have q1 : decide (y.1 < 0) = false := decide_eq_false (by omega)
              have q2 : decide (s.st.fl ≤ y.1) = false := decide_eq_false (by omega)
              have q3 : decide (y.2 < 0) = false := decide_eq_false (by omega)
              have q4 : decide (1000000 < y.2) = false := decide_eq_false (by omega)
              clear hok
              go_wp2
              go_roundw
              case rel => exact ⟨k + 1, by omega, by go_num, HQ2, by rw [all_take HY.out, HA.out, hq]; rfl⟩
              case measure => simp [intOf]; omega
            | false =>
              have HF : Hid (rgt s = false) := by
                show rgt s = false
                unfold rgt; rw [all_not HY.out hq]; simp
              have HNO : Hid (¬ (0 ≤ y.1 ∧ y.1 < s.st.fl ∧ 0 ≤ y.2 ∧ y.2 ≤ 1000000)) := fun h => by rw [cok_iff.2 h] at hq; cases hq
              go_wp2
              all_goals first
                | (go_ret; exact ⟨ret_bool HF.out.symm, HQ2.out.bel⟩)
                | (exact absurd HNO.out (by omega))
          · have hkz : ¬ (k : Int) < (s.cs.length : Int) := by omega
            have HA2 : Hid (s.cs.all (cok s.st.fl) = true) := by
              have h := HA.out
              rw [show k = s.cs.length by omega, List.take_length] at h
              exact h
            clear HA
            go_wp2_with fail
            clear c13
            have HQ3 := HQr
            clear HQr
            generalize wr = W3 at HQ3 ⊢
            go_loopw [5, 6] (fun a i wr => ∃ k p : Nat, k ≤ n ∧ a = .int .i64 (p : Int) ∧ i = .int .i64 (k : Int) ∧ Hid (p = 2 ^ k) ∧ p ≤ 256 ∧ Hid (Ry w wr s D (.slice ac s.cs.length kc) (.slice aw s.ws.length kw))) (fun _ i _ => n - (intOf i).toNat)
            case atStart => exact ⟨0, 1, Nat.zero_le _, rfl, rfl, rfl, by omega, HQ3⟩
            case round =>
              obtain ⟨k, p, hk, rfl, rfl, HP, hp, HQr⟩ := hrel
              clear HQ3
              have c1 : wr.cell? ⟨w.heap.size, 1, none⟩ = some (.int .i64 (n : Int)) := by rw [HQr.out.nb.cell 1, ← HCA.out]; rfl
              by_cases hlt : k < n
              · have hkz : (k : Int) < (n : Int) := by omega
                have hpz : (p : Int) ≤ 256 := by omega
                go_wp2
                go_roundw
                case rel =>
                  have hpp : 2 * p = 2 ^ (k + 1) := by rw [HP.out, Nat.pow_succ]; omega
                  refine ⟨k + 1, 2 * p, by omega, by go_num, by go_num, hpp, ?_, HQr⟩
                  rw [hpp]
                  have : 2 ^ (k + 1) ≤ 2 ^ 8 := Nat.pow_le_pow_right (by omega) (by omega)
                  omega
                case measure => simp [intOf]; omega
              · have hkz : ¬ (k : Int) < (n : Int) := by omega
                have HPn : Hid ((p : Int) = 2 ^ n) := by
                  show (p : Int) = 2 ^ n
                  rw [HP.out, show k = n by omega, Int.natCast_pow]; rfl
                clear HP
                go_wp2_with fail
                clear c1
                have HQ3 := HQr
                clear HQr
                generalize wr = W4 at HQ3 ⊢
                have hw8 : (s.ws.length : Int) ≤ 128 := by omega
                go_loopw [7] (fun i wr => ∃ k : Nat, k ≤ s.ws.length ∧ i = .int .i64 (k : Int) ∧ Hid (Ry w wr s D (.slice ac s.cs.length kc) (.slice aw s.ws.length kw)) ∧ Hid ((s.ws.take k).all (wok s.st.fl n) = true)) (fun i _ => s.ws.length - (intOf i).toNat)
                case atStart => exact ⟨0, Nat.zero_le _, rfl, HQ3, rfl⟩
                case round =>
                  obtain ⟨k, hk, rfl, HQr, HA⟩ := hrel
                  clear HQ3
                  have c14 : wr.cell? ⟨w.heap.size, 14, none⟩ = some (.slice aw s.ws.length kw) := HQr.out.nb.cell 14
                  by_cases hlt : k < s.ws.length
                  · have hkz : (k : Int) < (s.ws.length : Int) := by omega
                    obtain ⟨y, hy⟩ : ∃ y, s.ws[k]? = some y := ⟨_, List.getElem?_eq_getElem hlt⟩
                    obtain ⟨gb, o, rfl, e0, e1⟩ := HQr.out.rw.at hy
                    have HY := Hid.intro' hy
                    have HQ2 := Hid.intro' (HQr.out.alloc (.cells #[.int .i64 y.1, .int .i64 y.2] 46))
                    have f0 : (wr.alloc (.cells #[.int .i64 y.1, .int .i64 y.2] 46)).cell? ⟨w.heap.size, 0, none⟩ = some (.int .i64 s.st.fl) := HQ2.out.nb.cell 0
                    clear hy
                    cases hq : wok s.st.fl n y with
                    | true =>
                      have hok := wok_iff.1 hq
                      rw [← HPn.out] at hok
                      have q1 : decide (y.1 < 0) = false := decide_eq_false (by omega)
                      have q2 : decide (s.st.fl ≤ y.1) = false := decide_eq_false (by omega)
                      have q3 : decide (y.2 ≤ 0) = false := decide_eq_false (by omega)
                      have q4 : decide ((p : Int) ≤ y.2) = false := decide_eq_false (by omega)
                      clear hok
                      go_wp2
                      go_roundw
                      case rel => exact ⟨k + 1, by omega, by go_num, HQ2, by rw [all_take HY.out, HA.out, hq]; rfl⟩
                      case measure => simp [intOf]; omega
                    | false =>
                      have HF : Hid (rgt s = false) := by
                        show rgt s = false
                        unfold rgt; rw [HCA.out, Int.toNat_natCast, all_not HY.out hq]; simp
                      have HNO : Hid (¬ (0 ≤ y.1 ∧ y.1 < s.st.fl ∧ 0 < y.2 ∧ y.2 < (p : Int))) := fun h => by rw [HPn.out] at h; rw [wok_iff.2 h] at hq; cases hq
                      go_wp2
                      all_goals first
                        | (go_ret; exact ⟨ret_bool HF.out.symm, HQ2.out.bel⟩)
                        | (exact absurd HNO.out (by omega))
                  · have hkz : ¬ (k : Int) < (s.ws.length : Int) := by omega
                    have HF : Hid (rgt s = true) := by
                      show rgt s = true
                      have h := HA.out
                      rw [show k = s.ws.length by omega, List.take_length] at h
                      unfold rgt; rw [HR.out, HA2.out, H1.out, HCA.out, Int.toNat_natCast, h]; simp [h2]
                    go_wp2
                    go_ret
                    exact ⟨ret_bool HF.out.symm, HQr.out.bel⟩
      · have hb1 : ((s.cs.length : Int) != s.st.ca) = false := by simp [h1]
        have hb2 : decide ((128 : Int) < (s.ws.length : Int)) = true := decide_eq_true (by omega)
        have HR := Hid.intro' hr
        clear h1 hr
        go_wp2
        go_ret
        exact ⟨ret_bool (by unfold rgt; rw [decide_eq_false h2]; simp), HQ.out.bel⟩
    · have hb1 : ((s.cs.length : Int) != s.st.ca) = true := by simp [h1]
      have HR := Hid.intro' hr
      have H1 := Hid.intro' h1
      clear h1 hr
      go_wp2
      go_ret
      exact ⟨ret_bool (by unfold rgt; rw [decide_eq_false H1.out]; simp), HQ.out.bel⟩

end Go.Proofs.Ytdfdkddjkhcgdai
