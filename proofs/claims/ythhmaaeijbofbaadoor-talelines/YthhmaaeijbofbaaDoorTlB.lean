/- The program's Line; the document's example. -/
import Derived.Test.YthhmaaeijbofbaaDoorTlA
namespace Go.Proofs.YthhmaaeijbofbaaDoor
open Go.RowKit

theorem IS.slice {w : World} {v : Value} {l : List Int} (h : IS w v l) : ∃ a, v = .slice a l.length l.length := by
  rcases h with ⟨rfl, rfl⟩ | ⟨b, rfl, _⟩
  · exact ⟨none, rfl⟩
  · exact ⟨_, rfl⟩
theorem IS.at {w : World} {a : Option Addr} {l : List Int} (h : IS w (.slice a l.length l.length) l) {i : Nat} (hi : i < l.length) : ∃ b, a = some ⟨b, 0, none⟩ ∧ w.heap[b]? = some (.cells (l.map (Value.int .i64)).toArray 3 (0, 0)) := by
  rcases h with ⟨rfl, _⟩ | ⟨b, h1, h2⟩
  · exact absurd hi (Nat.not_lt_zero _)
  · injection h1 with h1 _ _
    exact ⟨b, h1, h2⟩
/-- while the line grows -/
structure Lw (w wr : World) (a : Option Addr) (l : List Int) : Prop where
  is : IS wr (.slice a l.length l.length) l
  pt : Pt wr
  be : Below w.heap.size w wr
theorem Lw.next {w wr w' : World} {a : Option Addr} {l : List Int} (h : Lw w wr a l) (hb : Below wr.heap.size wr w') : Lw w w' a l := ⟨h.is.below hb, h.pt.below hb, below_cl h.be h.be.size hb⟩
set_option maxRecDepth 100000 in
set_option maxHeartbeats 2000000 in
theorem tline_any (e : TM.Ev) (ok : TM.Ok e) (w : World) (hp : Pt w) : Calls Tryd.prog 7 #[.agg #[.int .i64 e.ki, .int .i64 e.a, .int .i64 e.b, .bool e.on, .int .i64 e.fl, .int .i64 e.ca, .int .i64 e.ag, .bool e.up]] w fun r w' => r = .returned (.string (sb (TM.line e))) ∧ Below w.heap.size w w' := by
  have HB0 := Hid.mk' ((Below.refl w.heap.size w).alloc (Nat.le_refl _) (.cells #[.int .i64 e.ki, .int .i64 e.a, .int .i64 e.b, .bool e.on, .int .i64 e.fl, .int .i64 e.ca, .int .i64 e.ag, .bool e.up] 25))
  have HE0 := Hid.mk' (EB.new w e)
  have HP0 := Hid.mk' (hp.below HB0.out)
  have HOK := Hid.mk' (nums_in ok)
  obtain ⟨out, HO⟩ : ∃ x, Hid (TM.line e = x) := ⟨_, Hid.mk' rfl⟩
  rw [HO.out]
  clear ok hp
  go_enter Tryd.func7, Tryd.ntmps7
  have m0 : (w.alloc (.cells #[.int .i64 e.ki, .int .i64 e.a, .int .i64 e.b, .bool e.on, .int .i64 e.fl, .int .i64 e.ca, .int .i64 e.ag, .bool e.up] 25)).cell? ⟨w.heap.size, 0, none⟩ = some (.int .i64 e.ki) := HE0.out.cell 0
  go_wp2_with (first | (go_at_call 11; refine (word_any e.ki _).mono ?_; rintro r W' ⟨rfl, rfl⟩) | (refine wpList_loadE rfl _ rfl _ rfl HE0.out ?_))
  clear m0
  generalize w.alloc (.cells #[.int .i64 e.ki, .int .i64 e.a, .int .i64 e.b, .bool e.on, .int .i64 e.fl, .int .i64 e.ca, .int .i64 e.ag, .bool e.up] 25) = V at HB0 HE0 HP0 ⊢
  refine (numbers_any e _).mono ?_
  rintro r W1 ⟨v, rfl, hi, hb1⟩
  obtain ⟨a, rfl⟩ := hi.slice
  have HL1 : Hid (Lw w W1 a (nums e)) := ⟨hi, HP0.out.below hb1, below_cl HB0.out HB0.out.size hb1⟩
  have hl3 := nums_len e
  have hw6 := wd_len e.ki
  have HT : Hid (wd e.ki ++ tail (nums e) = out) := by show _ = _; rw [← HO.out, line_tail]
  clear hi hb1 HB0 HE0 HP0 HO
  generalize nums e = l at HL1 HT HOK hl3 ⊢
  generalize wd e.ki = x0 at HT hw6 ⊢
  have hap : ∀ a b, sb a ++ sb b = sb (a ++ b) := sb_append
  have hss : ∀ a, (sb a).size = a.length := sb_size
  have hb0 : (⟨#[32]⟩ : ByteArray) = sb [32] := rfl
  go_wp2_with fail
  go_loopw [3, 12] (fun lv iv wr => Hid (Lw w wr a l) ∧ ∃ (i : Nat) (x : List UInt8), i ≤ l.length ∧ lv = .string (sb x) ∧ iv = .int .i64 (i : Int) ∧ Hid (x ++ tail (l.drop i) = out) ∧ x.length ≤ 6 + 22 * i) (fun _ iv _ => l.length - (intOf iv).toNat)
  case atStart => exact ⟨HL1, 0, x0, Nat.zero_le _, rfl, rfl, HT, by omega⟩
  case round =>
    obtain ⟨HL, i, x, hi, rfl, rfl, HX, hx⟩ := hrel
    by_cases hlt : i < l.length
    · have hiz : (i : Int) < (l.length : Int) := by omega
      obtain ⟨b, rfl, hbk⟩ := HL.out.is.at hlt
      obtain ⟨n, hn⟩ : ∃ n, l[i]? = some n := ⟨_, List.getElem?_eq_getElem hlt⟩
      have mi := one_cell hbk hn
      have HI := Hid.mk' (HOK.out n (List.mem_of_getElem? hn))
      have HNX : Hid ((x ++ ([32] ++ TM.num n)) ++ tail (l.drop (i + 1)) = out) := by
        show _ = _
        rw [← HX.out, List.drop_eq_getElem_cons hlt, (List.getElem?_eq_some_iff.1 hn).2]
        simp [tail]
      have hnl := num_len n
      clear hbk hn HX
      go_wp2_with fail
      refine (itoa_any n HI.out _ HL.out.pt).mono ?_
      rintro r W2 ⟨rfl, hb2⟩
      have HL2 := Hid.mk' (HL.out.next hb2)
      clear hb2 HL mi
      generalize TM.num n = u at HNX hnl ⊢
      go_wp2
      go_roundw
      case rel => exact ⟨HL2, i + 1, x ++ ([32] ++ u), by omega, rfl, by go_num, HNX, by simp; omega⟩
      case measure => simp [intOf]; omega
    · have hiz : ¬ ((i : Int) < (l.length : Int)) := by omega
      obtain rfl : i = l.length := by omega
      have HXX : Hid (x = out) := by
        have := HX.out
        rw [List.drop_length] at this
        show x = out
        rw [← this]
        simp [tail]
      clear HX
      go_wp2
      go_ret
      exact ⟨ret_str HXX.out, HL.out.be⟩
theorem speaks18_any (w : World) (hp : Pt w) : Calls Tryd.prog 6 #[] w fun r w' => r = .returned (.bool true) ∧ Below w.heap.size w w' := by
  have HL := Hid.intro'' (tline_any ⟨8, 0, 0, false, 0, 0, 0, false⟩ ⟨⟨by decide, by decide⟩, ⟨by decide, by decide⟩, ⟨by decide, by decide⟩, ⟨by decide, by decide⟩⟩ w hp)
  rw [show TM.line ⟨8, 0, 0, false, 0, 0, 0, false⟩ = [116, 105, 99, 107] from rfl] at HL
  go_enter Tryd.func6, Tryd.ntmps6
  go_wp2_with fail
  refine HL.out.mono ?_
  rintro r W1 ⟨rfl, hb1⟩
  have HB1 := Hid.intro'' hb1
  clear hb1 HL
  have htl : ∀ l, (sb l).toList = l := sb_toList
  go_wp2
  go_ret
  exact ⟨rfl, HB1.out⟩

end Go.Proofs.YthhmaaeijbofbaaDoor
