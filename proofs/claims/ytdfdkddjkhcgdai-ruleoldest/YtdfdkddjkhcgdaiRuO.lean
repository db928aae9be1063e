/- The oldest call, as the document has it. -/
import Derived.Test.YtdfdkddjkhcgdaiPk9
import Derived.BigQuiet
namespace Go.Proofs.Ytdfdkddjkhcgdai
open Go.RowKit Go.Shelf

set_option maxRecDepth 100000 in
set_option maxHeartbeats 4000000 in
theorem rold_any (D : Nat → Prop) (v : Value) (L : List Ca) (car age : Int) (W : World) (h : RC D W v L) (hl : L.length ≤ 200) :
    Calls Try.prog 8 #[v, .int .i64 car, .int .i64 age] W fun e w' => e = .returned (.int .i64 (oix (oldk (oky car age) L L.length))) ∧ Below W.heap.size W w' := by
  obtain ⟨av, kv, rfl, _⟩ := h.form
  obtain ⟨r, HR⟩ : ∃ r, Hid (oix (oldk (oky car age) L L.length) = r) := ⟨_, Hid.intro' rfl⟩
  rw [HR.out]
  have HC := Hid.intro' h
  clear h
  go_enter Try.func8, Try.ntmps8
  go_wp2_with fail
  go_loopw [7, 8] (fun bv iv wr => ∃ (i : Nat) (b : Int), i ≤ L.length ∧ bv = .int .i64 b ∧ iv = .int .i64 (i : Int) ∧ Hid (b = oix (oldk (oky car age) L i)) ∧ Hid (Below W.heap.size W wr)) (fun _ iv _ => L.length - (intOf iv).toNat)
  case atStart => exact ⟨0, -1, Nat.zero_le _, rfl, rfl, rfl, Below.refl _ _⟩
  case round =>
    obtain ⟨i, b, hi, rfl, rfl, HB, HW⟩ := hrel
    by_cases hlt : i < L.length
    · have hiz : (i : Int) < (L.length : Int) := by omega
      obtain ⟨y, hy⟩ : ∃ y, L[i]? = some y := ⟨_, List.getElem?_eq_getElem hlt⟩
      obtain ⟨g, o, ha, hg, _, c1, c2, _⟩ := (HC.out.below' HW.out).at hy
      subst ha
      have hix : ∀ W : World, (Instr.indexAt 22 (.slice (some ⟨g, o, none⟩) L.length kv) (.int .i64 (i : Int))).run Try.prog W = .ok (.pointer (some ⟨g, o + i * 4, none⟩)) W := fun W => ixCa W hlt
      have HY := Hid.intro' hy
      have HBD : Hid (∀ n, Below W.heap.size W (wr.drewN n)) := fun n => HW.out.trans ⟨rfl, rfl, rfl, Nat.le_refl _, fun _ _ => rfl⟩
      clear hy hg
      by_cases q1 : age ≤ y.ag
      · have d1 : decide (age ≤ y.ag) = true := decide_eq_true q1
        by_cases q2 : y.ca < 0 ∨ y.ca = car
        · have HOK : Hid (oky car age y = true) := by show _ = _; unfold oky; simp [q1, q2]
          cases hk : oldk (oky car age) L i with
          | none =>
            have HN : Hid (oldk (oky car age) L (i + 1) = some (i, y)) := oldk_first HY.out HOK.out hk
            have hb : b = -1 := by rw [HB.out, hk]; rfl
            subst hb
            have HB2 : Hid ((i : Int) = oix (oldk (oky car age) L (i + 1))) := by show _ = _; rw [HN.out]; rfl
            clear HB hk HN q1
            by_cases q3 : y.ca < 0
            · have d3 : decide (y.ca < 0) = true := decide_eq_true q3
              clear q2
              go_wp2_with fail
              go_quiet (fail)
              go_wp2
              go_roundw
              case rel => exact ⟨i + 1, _, by omega, rfl, by go_num, HB2, HBD.out _⟩
              case measure => simp [intOf]; omega
            · have d3 : decide (y.ca < 0) = false := decide_eq_false q3
              have d4 : (y.ca == car) = true := by simpa [q3] using q2
              clear q2
              go_wp2_with fail
              go_quiet (fail)
              go_wp2
              go_roundw
              case rel => exact ⟨i + 1, _, by omega, rfl, by go_num, HB2, HBD.out _⟩
              case measure => simp [intOf]; omega
          | some x =>
            obtain ⟨j, z⟩ := x
            obtain ⟨hj, hz, _⟩ := oldk_at hk
            obtain ⟨g2, o2, e2, _, _, _, c5, _⟩ := (HC.out.below' HW.out).at hz
            cases e2
            have hix2 : ∀ W : World, (Instr.indexAt 22 (.slice (some ⟨g, o, none⟩) L.length kv) (.int .i64 (j : Int))).run Try.prog W = .ok (.pointer (some ⟨g, o + j * 4, none⟩)) W := fun W => ixCa W (by omega)
            have hb : b = (j : Int) := by rw [HB.out, hk]; rfl
            subst hb
            have d5 : decide ((j : Int) < 0) = false := decide_eq_false (by omega)
            by_cases q4 : z.ag < y.ag
            · have d4 : decide (z.ag < y.ag) = true := decide_eq_true q4
              have HN : Hid (oldk (oky car age) L (i + 1) = some (i, y)) := oldk_more HY.out HOK.out hk q4
              have HB2 : Hid ((i : Int) = oix (oldk (oky car age) L (i + 1))) := by show _ = _; rw [HN.out]; rfl
              clear HB hk HN q1 hz q4 hj
              by_cases q3 : y.ca < 0
              · have d3 : decide (y.ca < 0) = true := decide_eq_true q3
                clear q2
                go_wp2_with fail
                go_quiet (fail)
                go_wp2
                go_roundw
                case rel => exact ⟨i + 1, _, by omega, rfl, by go_num, HB2, HBD.out _⟩
                case measure => simp [intOf]; omega
              · have d3 : decide (y.ca < 0) = false := decide_eq_false q3
                have d6 : (y.ca == car) = true := by simpa [q3] using q2
                clear q2
                go_wp2_with fail
                go_quiet (fail)
                go_wp2
                go_roundw
                case rel => exact ⟨i + 1, _, by omega, rfl, by go_num, HB2, HBD.out _⟩
                case measure => simp [intOf]; omega
            · have d4 : decide (z.ag < y.ag) = false := decide_eq_false q4
              have HB2 : Hid ((j : Int) = oix (oldk (oky car age) L (i + 1))) := by show _ = _; rw [oldk_less HY.out hk q4, hk]; rfl
              clear HB hk q1 hz q4 hj
              by_cases q3 : y.ca < 0
              · have d3 : decide (y.ca < 0) = true := decide_eq_true q3
                clear q2
                go_wp2_with fail
                go_quiet (fail)
                go_wp2
                go_roundw
                case rel => exact ⟨i + 1, _, by omega, rfl, by go_num, HB2, HBD.out _⟩
                case measure => simp [intOf]; omega
              · have d3 : decide (y.ca < 0) = false := decide_eq_false q3
                have d6 : (y.ca == car) = true := by simpa [q3] using q2
                clear q2
                go_wp2_with fail
                go_quiet (fail)
                go_wp2
                go_roundw
                case rel => exact ⟨i + 1, _, by omega, rfl, by go_num, HB2, HBD.out _⟩
                case measure => simp [intOf]; omega
        · have d3 : decide (y.ca < 0) = false := decide_eq_false (fun h => q2 (.inl h))
          have d6 : (y.ca == car) = false := by
            have : y.ca ≠ car := fun h => q2 (.inr h)
            simpa using this
          have HB2 : Hid (b = oix (oldk (oky car age) L (i + 1))) := by
            show _ = _
            rw [oldk_not HY.out (by
              unfold oky
              have h1 : decide (y.ca = car) = false := decide_eq_false (fun h => q2 (.inr h))
              rw [d3, h1]; simp), HB.out]
          clear HB q1 q2
          go_wp2_with fail
          go_quiet (fail)
          go_wp2
          go_roundw
          case rel => exact ⟨i + 1, _, by omega, rfl, by go_num, HB2, HBD.out _⟩
          case measure => simp [intOf]; omega
      · have d1 : decide (age ≤ y.ag) = false := decide_eq_false q1
        have HB2 : Hid (b = oix (oldk (oky car age) L (i + 1))) := by
          show _ = _
          rw [oldk_not HY.out (by unfold oky; rw [d1]; rfl), HB.out]
        clear HB q1
        go_wp2_with fail
        go_quiet (fail)
        go_wp2
        go_roundw
        case rel => exact ⟨i + 1, _, by omega, rfl, by go_num, HB2, HBD.out _⟩
        case measure => simp [intOf]; omega
    · have hiz : ¬ (i : Int) < (L.length : Int) := by omega
      have HE : Hid (b = r) := by
        show _ = _
        rw [← HR.out, HB.out, show i = L.length by omega]
      go_wp2
      go_ret
      exact ⟨ret_int HE.out, HW.out⟩

end Go.Proofs.Ytdfdkddjkhcgdai
