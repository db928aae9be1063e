/- A number as a word, as the document has it. -/
import Derived.Test.YthhmaaeijbofbaaDoorTlM
import Derived.WalkKit
import Derived.WalkSpells
import Derived.WalkLawsBesides
import Derived.Deep.DeepCutAuto
namespace Go.Proofs.YthhmaaeijbofbaaDoor
open Go.RowKit

/-- bytes as a string holds them -/
def sb (l : List UInt8) : ByteArray := ⟨l.toArray⟩
theorem sb_append (a b : List UInt8) : sb a ++ sb b = sb (a ++ b) := by
  apply ByteArray.ext
  simp [sb]
theorem sb_size (a : List UInt8) : (sb a).size = a.length := by simp [sb, ByteArray.size]
theorem sb_inj {a b : List UInt8} : sb a = sb b ↔ a = b := ⟨fun h => by
  have := congrArg (fun x : ByteArray => x.data.toList) h
  simpa [sb] using this, fun h => by rw [h]⟩
theorem Hid.intro'' {p : Prop} (h : p) : Hid p := h

theorem rtruth_any (x : Bool) (w : World) : Calls Tryd.prog 18 #[.bool x] w fun e w' => e = .returned (.string (sb (32 :: TM.tr x))) ∧ w' = w := by
  cases x
  · go_enter Tryd.func18, Tryd.ntmps18
    go_wp2
    go_ret
    exact ⟨rfl, rfl⟩
  · go_enter Tryd.func18, Tryd.ntmps18
    go_wp2
    go_ret
    exact ⟨rfl, rfl⟩

set_option maxHeartbeats 2000000 in
theorem rint_any (n : Int) (h : TM.In64 n) (w : World) : Calls Tryd.prog 17 #[.int .i64 n] w fun e w' => e = .returned (.string (sb (TM.num n))) ∧ w' = w := by
  obtain ⟨h1, h2⟩ := h
  obtain ⟨M, hM⟩ : ∃ M, n.natAbs = M := ⟨_, rfl⟩
  have hMb : M ≤ 9223372036854775808 := by omega
  have HM := Hid.intro'' hM
  clear hM
  go_enter Tryd.func17, Tryd.ntmps17
  go_upto_if 9 with fail
  go_cut [3] (fun s3 W' => s3 = .int .u64 (M : Int) ∧ W' = w)
  case first =>
    by_cases hn : n < 0
    · go_wp2
      go_meet
      case rel =>
        refine ⟨?_, rfl⟩
        have := HM.out
        congr 1
        omega
    · go_wp2
      go_meet
      case rel =>
        refine ⟨?_, rfl⟩
        have := HM.out
        congr 1
        rw [IntKind.wrap_u64]
        omega
  case rest =>
    obtain ⟨rfl, rfl⟩ := hcut
    have hinv : (0 : Nat) = 0 := rfl
    go_wp2_with fail
    go_loopw [3, 4, 5] (fun mv sv iv wr => wr = wc ∧ ∃ (i m : Nat) (l : List UInt8), i ≤ 20 ∧ mv = .int .u64 (m : Int) ∧ sv = .string (sb l) ∧ iv = .int .i64 (i : Int) ∧ Hid ((i = 0 ∧ m = M ∧ l = []) ∨ (1 ≤ i ∧ TM.dg (20 - i) m ++ l = TM.dec M)) ∧ m < 10 ^ (20 - i) ∧ m ≤ 9223372036854775808 ∧ l.length = i) (fun _ _ iv _ => 20 - (intOf iv).toNat)
    case atStart => exact ⟨rfl, 0, M, [], by omega, rfl, rfl, rfl, .inl ⟨rfl, rfl, rfl⟩, by simp; omega, hMb, rfl⟩
    case round =>
      obtain ⟨rfl, i, m, l, hi, rfl, rfl, rfl, HI, hm, hm2, hll0⟩ := hrel
      have HLI := Hid.intro'' hll0
      have hll : l.length ≤ 20 := by omega
      clear hll0
      by_cases hc : i < 20 ∧ (0 < m ∨ i = 0)
      · obtain ⟨hi2, hc⟩ := hc
        have hiz : (i : Int) < 20 := by omega
        obtain ⟨d, hd⟩ : ∃ d, m % 10 = d := ⟨_, rfl⟩
        have hd9 : d < 10 := by omega
        have hrem : (m : Int).tmod 10 = (d : Int) := by rw [Int.tmod_eq_emod_of_nonneg (by omega)]; omega
        have hsl : ∀ w, (Instr.sliceAt 9 (.string ⟨#[48, 49, 50, 51, 52, 53, 54, 55, 56, 57]⟩) (some (.int .u64 (d : Int))) (some (.int .u64 ((d : Int) + 1))) none).run Tryd.prog w = .ok (.string (sb [UInt8.ofNat (48 + d)])) w := fun w => by
          have h10 : d = 0 ∨ d = 1 ∨ d = 2 ∨ d = 3 ∨ d = 4 ∨ d = 5 ∨ d = 6 ∨ d = 7 ∨ d = 8 ∨ d = 9 := by omega
          clear hrem hd
          rcases h10 with rfl | rfl | rfl | rfl | rfl | rfl | rfl | rfl | rfl | rfl <;> (simp [go_sem]; rfl)
        have HNX : Hid (TM.dg (20 - (i + 1)) (m / 10) ++ (UInt8.ofNat (48 + d) :: l) = TM.dec M) := by
          show _ = _
          rcases HI.out with ⟨rfl, rfl, rfl⟩ | ⟨h1, h2⟩
          · unfold TM.dec
            by_cases e : m = 0
            · subst e
              have : d = 0 := by omega
              subst this
              rfl
            · rw [if_neg e]
              show _ = (if m = 0 then [] else TM.dg 19 (m / 10) ++ [UInt8.ofNat (48 + m % 10)])
              rw [if_neg e, hd]
          · have hm0 : m ≠ 0 := by omega
            rw [show 20 - i = (20 - (i + 1)) + 1 by omega] at h2
            have h3 : TM.dg (20 - (i + 1) + 1) m = TM.dg (20 - (i + 1)) (m / 10) ++ [UInt8.ofNat (48 + m % 10)] := by
              show (if m = 0 then [] else _) = _
              rw [if_neg hm0]
            rw [h3, hd, List.append_assoc] at h2
            exact h2
        have HPW : Hid (m / 10 < 10 ^ (20 - (i + 1))) := by
          show _ < _
          rw [show 20 - i = (20 - (i + 1)) + 1 by omega, Nat.pow_succ] at hm
          omega
        have HLL : Hid (i = 0 → l = []) := fun e => by
          rcases HI.out with ⟨_, _, h⟩ | ⟨h, _⟩
          · exact h
          · omega
        obtain ⟨x, hx⟩ : ∃ x, UInt8.ofNat (48 + d) = x := ⟨_, rfl⟩
        rw [hx] at hsl HNX
        have hap : ∀ a b, sb a ++ sb b = sb (a ++ b) := sb_append
        have hss : ∀ a, (sb a).size = a.length := sb_size
        have HX8 : Hid (m = 0 → x = 48) := fun e => by
          have e2 : d = 0 := by omega
          rw [← hx, e2]; rfl
        clear hd hx HI
        rcases hc with hp | hp
        · have hpz : (0 : Int) < (m : Int) := by omega
          go_wp2
          go_roundw
          case rel => exact ⟨trivial, i + 1, m / 10, x :: l, by omega, by go_num, rfl, by go_num, .inr ⟨by omega, HNX.out⟩, HPW.out, by omega, by rw [List.length_cons, HLI.out]⟩
          case measure => simp [intOf]; omega
        · have hi0 : (i : Int) = 0 := by omega
          have hib : ((i : Int) == 0) = true := by simp [hp]
          by_cases hpz : (0 : Int) < (m : Int)
          · go_wp2
            go_roundw
            case rel => exact ⟨trivial, i + 1, m / 10, x :: l, by omega, by go_num, rfl, by go_num, .inr ⟨by omega, HNX.out⟩, HPW.out, by omega, by rw [List.length_cons, HLI.out]⟩
            case measure => simp [intOf]; omega
          · have HX9 : Hid (x = 48) := HX8.out (by omega)
            go_wp2
            go_roundw
            case rel => exact ⟨trivial, i + 1, m / 10, x :: l, by omega, by go_num, by rw [HX9.out]; exact congrArg Value.string (sb_append [48] l), by go_num, .inr ⟨by omega, HNX.out⟩, HPW.out, by omega, by rw [List.length_cons, HLI.out]⟩
            case measure => simp [intOf]; omega
      · have hm0 : m = 0 := by
          by_cases e : i < 20
          · omega
          · have e2 : i = 20 := by omega
            rw [e2] at hm
            simpa using hm
        have hi1 : i ≠ 0 := by omega
        have HL : Hid (l = TM.dec M) := by
          rcases HI.out with ⟨h, _⟩ | ⟨_, h⟩
          · exact absurd h hi1
          · rw [hm0] at h
            cases hk : 20 - i with
            | zero => rw [hk] at h; exact h
            | succ k => rw [hk] at h; exact h
        have hap : ∀ a b, sb a ++ sb b = sb (a ++ b) := sb_append
        have hss : ∀ a, (sb a).size = a.length := sb_size
        have h45 : (⟨#[45]⟩ : ByteArray) = sb [45] := rfl
        have HN1 : Hid (n < 0 → 45 :: l = TM.num n) := fun hn => by
          unfold TM.num
          rw [if_pos hn, HL.out, HM.out]
        have HN2 : Hid (¬ n < 0 → l = TM.num n) := fun hn => by
          unfold TM.num
          rw [if_neg hn, HL.out, HM.out]
        have hmz : ¬ ((0 : Int) < (m : Int)) := by omega
        have hiz : ¬ ((i : Int) = 0) := by omega
        have hib : ((i : Int) == 0) = false := by simp [hi1]
        subst hm0
        clear HI HL hm hc hi1
        by_cases h20 : (i : Int) < 20
        · by_cases hn : n < 0
          · go_wp2
            go_ret
            exact ⟨congrArg (fun l => Ending.returned (Value.string (sb l))) (HN1.out hn), rfl⟩
          · go_wp2
            go_ret
            exact ⟨congrArg (fun l => Ending.returned (Value.string (sb l))) (HN2.out (by omega)), rfl⟩
        · by_cases hn : n < 0
          · go_wp2
            go_ret
            exact ⟨congrArg (fun l => Ending.returned (Value.string (sb l))) (HN1.out hn), rfl⟩
          · go_wp2
            go_ret
            exact ⟨congrArg (fun l => Ending.returned (Value.string (sb l))) (HN2.out (by omega)), rfl⟩

end Go.Proofs.YthhmaaeijbofbaaDoor
