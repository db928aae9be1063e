/- The document's answer for the floors of a set, as a list. -/
import Derived.Test.YtklekpkchpnmiaaFloorsGoS
import Derived.Maps.AppendAt
import Derived.Lib.OwnKind
import Derived.OwnWalk
namespace Go.Proofs.Ytklekpkchpnmiaa
open Go.RowKit Go.Shelf

theorem info3 : (Try.prog.info? 3).map (fun i => (i.zero, i.size, i.bytes)) = some (some (.int .i64 0), 1, 8) := by kernel_rfl
def iv (l : List Nat) : List Value := l.map fun x : Nat => .int .i64 (x : Int)
theorem iv_snoc (l : List Nat) (x : Nat) : iv (l ++ [x]) = iv l ++ [.int .i64 (x : Int)] := by simp [iv]
theorem iv_length (l : List Nat) : (iv l).length = l.length := by simp [iv]

theorem bit_cell {W : World} {N s : Nat} (h : ArrB W N (bitsTo s 64)) (i : Nat) (hi : i < 64) : W.cell? ⟨N, i, none⟩ = some (.bool (s.testBit i)) := by
  rw [h.cell i (by rw [bitsTo_length]; exact hi), bitsTo_get _ _ _ hi]; simp [hi]
/-- the floors from one on, after k looks -/
theorem up_next (s : Nat) (f : Int) (k : Nat) : FM.seg s f.toNat (k + 1) = FM.seg s f.toNat k ++ (if s.testBit k = true ∧ f ≤ (k : Int) then [k] else []) := by
  rw [FM.seg_succ]
  congr 1
  by_cases h : s.testBit k = true ∧ f ≤ (k : Int)
  · rw [if_pos h, if_pos (by simp [h.1]; omega)]
  · rw [if_neg h, if_neg]
    simp only [Bool.and_eq_true, decide_eq_true_eq]
    rintro ⟨h1, h2⟩
    exact h ⟨h2, by omega⟩

set_option maxRecDepth 100000 in
set_option maxHeartbeats 2000000 in
theorem list_up (s : Nat) (f : Int) (w : World) (hs : s < 18446744073709551616) :
    Calls Try.prog 30 #[.int .u64 s, .int .i64 f, .bool true] w fun e w' => ∃ v, e = .returned v ∧ w'.ownsRow w.heap.size 3 1 v (FM.upL s f).length (iv (FM.upL s f)) ∧ Below w.heap.size w w' := by
  obtain ⟨i0, hi, hz0, hz1, hz2⟩ := info_parts info3
  go_enter Try.func30, Try.ntmps30
  go_wp2_with fail
  refine (rall_any s _ hs).mono ?_
  rintro e W1 ⟨rfl, hb1⟩
  have hzl : zb.length = 64 := by decide
  have hbl := bitsTo_length s 64
  have T0 := Hid.intro' (show (W1.alloc (.cells (bv zb).toArray 31)).there W1.heap.size 0 64 from by have := (ArrB.new W1).there; rw [hzl] at this; exact this)
  have HB1 := Hid.intro' hb1
  clear hb1 hzl
  have A0 : True := trivial
  have A1 : True := trivial
  go_wp2_with (first
    | (have _t := A0; refine wpList_alloc31 W1.heap.size rfl rfl rfl ?_; clear A0)
    | (have _t := A1; refine wpList_store31 rfl _ _ rfl W1.heap.size (bitsTo s 64) rfl rfl T0.out hbl ?_; clear A1))
  clear T0
  have HA := Hid.intro' ((ArrB.new W1).store (cs := bitsTo s 64) (by rw [hbl]; decide))
  have HB2 := Hid.intro' (show Below w.heap.size w ((W1.alloc (.cells (bv zb).toArray 31)).setCells W1.heap.size 0 (bv (bitsTo s 64))) from
    below_setCells W1.heap.size HB1.out.size _ 0 _ (HB1.out.alloc HB1.out.size _))
  clear HB1
  generalize (W1.alloc (.cells (bv zb).toArray 31)).setCells W1.heap.size 0 (bv (bitsTo s 64)) = W2 at HA HB2 ⊢
  generalize W1.heap.size = N at HA ⊢
  have HO0 := Hid.intro' (World.ownsRow_lit (base := w.heap.size) (e := 3) (size := 1) W2 #[] 0 HB2.out.size (Nat.zero_le _) rfl)
  have HA0 := Hid.intro' (HA.out.alloc (.cells #[] 3))
  have HB0 := Hid.intro' (HB2.out.alloc HB2.out.size (.cells #[] 3))
  clear HA HB2
  generalize W2.alloc (.cells #[] 3) = W3 at HO0 HA0 HB0 ⊢
  go_loopw [8, 9] (fun v i wr => ∃ k : Nat, k ≤ 64 ∧ i = .int .i64 k ∧ wr.ownsRow w.heap.size 3 1 v (FM.seg s f.toNat k).length (iv (FM.seg s f.toNat k)) ∧ ArrB wr N (bitsTo s 64) ∧ Below w.heap.size w wr)
    (fun _ i _ => 64 - (intOf i).toNat)
  case atStart => exact ⟨0, Nat.zero_le _, rfl, HO0.out, HA0.out, HB0.out⟩
  case round =>
    obtain ⟨k, hk, rfl, hown, ha, hB⟩ := hrel
    clear HO0 HA0 HB0
    by_cases hlt : k < 64
    · have hltI : (k : Int) < 64 := by omega
      have hc1 : wr.cell? ⟨N, k, none⟩ = some (.bool (s.testBit k)) := by
        rw [ha.cell k (by omega), bitsTo_get _ _ _ hlt]; simp [hlt]
      have hlen := FM.seg_length s f.toNat k
      have hNlt := ha.lt
      have HNX := Hid.intro' (up_next s f k)
      have HA := Hid.intro' ha
      have HB := Hid.intro' hB
      have HW := Hid.intro' hown
      by_cases hyes : s.testBit k = true ∧ f ≤ (k : Int)
      · obtain ⟨hy1, hy2⟩ := hyes
        have hne : u8.ownBlock ≠ some N := fun e => by
          obtain ⟨c, fz, h⟩ := Go.Lib.ownsRow_kind hown N e
          rw [show wr.heap[N]? = _ from ha] at h
          cases h
        rw [hy1] at hc1
        have HE := Hid.intro' (show FM.seg s f.toNat (k + 1) = FM.seg s f.toNat k ++ [k] from by rw [HNX.out, if_pos ⟨hy1, hy2⟩])
        have hbsz := hB.size
        clear hy1 ha hB HNX
        rcases Bool.eq_false_or_eq_true (s.testBit (63 - k)) with hb2 | hb2
        all_goals
          go_wp2_with (at_builtin; refine wpList_append_own _ rfl _ _ 22 rfl w.heap.size 3 i0 (.int .i64 0) 1 8 Try.underlying22 hi hz0 hz1 hz2 rfl (by decide) _ _ _ rfl (HW.out.alloc _) ⟨wr.heap.size, 0, none⟩ 1 1 [.int .i64 (k : Int)] rfl rfl (cell_one_new _ _ _) (by simp [Value.oneCell']) (by unfold maxLen; omega) (by omega) (by simp; omega) ?_; intro v' w1 hown' hgrow _; obtain ⟨g', cap', rfl⟩ := ownsRow_succ hown'; have ha1 : ArrB w1 N (bitsTo s 64) := (hgrow.block N (by simp; omega) (Ne.symm hne)).trans (HA.out.alloc _); have hc2 := bit_cell ha1 (63 - k) (by omega); rw [hb2] at hc2; have HA1 := Hid.intro' ha1; have HG := Hid.intro' hgrow; have HO1 := Hid.intro' hown'; clear ha1 hgrow hown')
          go_roundw
          case rel =>
            refine ⟨k + 1, by omega, by go_num, ?_, HA1.out, ?_⟩
            · rw [HE.out, iv_snoc, List.length_append]; exact HO1.out
            · exact (HB.out.alloc HB.out.size _).grown HG.out (by simp; omega) (fun j e => (HW.out.lt j e).1)
          case measure => simp [intOf]; omega
      · have HE := Hid.intro' (show FM.seg s f.toNat (k + 1) = FM.seg s f.toNat k from by rw [HNX.out, if_neg hyes, List.append_nil])
        have hc2 := bit_cell ha (63 - k) (by omega)
        have HY := Hid.intro' hyes
        clear ha hB HNX hyes
        rcases Bool.eq_false_or_eq_true (s.testBit (63 - k)) with hb2 | hb2 <;> rcases Bool.eq_false_or_eq_true (s.testBit k) with hb1 | hb1
        all_goals
          rw [hb2] at hc2
          rw [hb1] at hc1
          first
            | have hf : decide (f ≤ (k : Int)) = false := by
                have := HY.out
                rw [hb1] at this
                simp at this ⊢
                omega
            | skip
          go_wp2
          go_roundw
          case rel => exact ⟨k + 1, by omega, by go_num, by rw [HE.out]; exact HW.out, HA.out, HB.out⟩
          case measure => simp [intOf]; omega
    · obtain rfl : k = 64 := by omega
      have HW := Hid.intro' hown
      have HB := Hid.intro' hB
      clear ha hB hown
      go_wp2
      go_ret
      exact ⟨_, rfl, HW.out, HB.out⟩

/-- the floors from one on, falling, after k looks -/
def dnL (s : Nat) (f : Int) (k : Nat) : List Nat := (FM.seg s (64 - k) ((if f ≤ 63 then f else 63) + 1).toNat).reverse
theorem dnL_m (f : Int) : ((if f ≤ 63 then f else 63) + 1).toNat ≤ 64 := by split <;> omega
theorem dnL_zero (s : Nat) (f : Int) : dnL s f 0 = [] := by
  unfold dnL; rw [FM.seg_self s _ _ (by have := dnL_m f; omega)]; rfl
theorem dnL_all (s : Nat) (f : Int) : dnL s f 64 = FM.downL s f := rfl
theorem dnL_length (s : Nat) (f : Int) (k : Nat) : (dnL s f k).length ≤ 64 := by
  unfold dnL; rw [List.length_reverse]; exact Nat.le_trans (FM.seg_length s _ _) (dnL_m f)
theorem dn_next (s : Nat) (f : Int) (k : Nat) (hk : k < 64) : dnL s f (k + 1) = dnL s f k ++ (if s.testBit (63 - k) = true ∧ (63 : Int) - (k : Int) ≤ f then [63 - k] else []) := by
  unfold dnL
  obtain ⟨m, hm⟩ : ∃ m : Nat, m = ((if f ≤ 63 then f else 63) + 1).toNat := ⟨_, rfl⟩
  rw [← hm, show 64 - (k + 1) = 63 - k by omega, show 64 - k = (63 - k) + 1 by omega]
  have hg : (63 - k < m) ↔ (63 : Int) - (k : Int) ≤ f := by rw [hm]; split <;> omega
  cases hb : s.testBit (63 - k)
  · rw [FM.seg_down_no m hb]; simp
  · by_cases h : 63 - k < m
    · rw [FM.seg_down_yes m h hb, if_pos ⟨rfl, hg.1 h⟩, List.reverse_cons]
    · rw [FM.seg_self s (63 - k) m (by omega), FM.seg_self s (63 - k + 1) m (by omega), if_neg (fun h2 => h (hg.2 h2.2))]; rfl

set_option maxRecDepth 100000 in
set_option maxHeartbeats 2000000 in
theorem list_down (s : Nat) (f : Int) (w : World) (hs : s < 18446744073709551616) :
    Calls Try.prog 30 #[.int .u64 s, .int .i64 f, .bool false] w fun e w' => ∃ v, e = .returned v ∧ w'.ownsRow w.heap.size 3 1 v (FM.downL s f).length (iv (FM.downL s f)) ∧ Below w.heap.size w w' := by
  obtain ⟨i0, hi, hz0, hz1, hz2⟩ := info_parts info3
  go_enter Try.func30, Try.ntmps30
  go_wp2_with fail
  refine (rall_any s _ hs).mono ?_
  rintro e W1 ⟨rfl, hb1⟩
  have hzl : zb.length = 64 := by decide
  have hbl := bitsTo_length s 64
  have T0 := Hid.intro' (show (W1.alloc (.cells (bv zb).toArray 31)).there W1.heap.size 0 64 from by have := (ArrB.new W1).there; rw [hzl] at this; exact this)
  have HB1 := Hid.intro' hb1
  clear hb1 hzl
  have A0 : True := trivial
  have A1 : True := trivial
  go_wp2_with (first
    | (have _t := A0; refine wpList_alloc31 W1.heap.size rfl rfl rfl ?_; clear A0)
    | (have _t := A1; refine wpList_store31 rfl _ _ rfl W1.heap.size (bitsTo s 64) rfl rfl T0.out hbl ?_; clear A1))
  clear T0
  have HA := Hid.intro' ((ArrB.new W1).store (cs := bitsTo s 64) (by rw [hbl]; decide))
  have HB2 := Hid.intro' (show Below w.heap.size w ((W1.alloc (.cells (bv zb).toArray 31)).setCells W1.heap.size 0 (bv (bitsTo s 64))) from
    below_setCells W1.heap.size HB1.out.size _ 0 _ (HB1.out.alloc HB1.out.size _))
  clear HB1
  generalize (W1.alloc (.cells (bv zb).toArray 31)).setCells W1.heap.size 0 (bv (bitsTo s 64)) = W2 at HA HB2 ⊢
  generalize W1.heap.size = N at HA ⊢
  have HO0 := Hid.intro' (World.ownsRow_lit (base := w.heap.size) (e := 3) (size := 1) W2 #[] 0 HB2.out.size (Nat.zero_le _) rfl)
  have HA0 := Hid.intro' (HA.out.alloc (.cells #[] 3))
  have HB0 := Hid.intro' (HB2.out.alloc HB2.out.size (.cells #[] 3))
  clear HA HB2
  generalize W2.alloc (.cells #[] 3) = W3 at HO0 HA0 HB0 ⊢
  go_loopw [8, 9] (fun v i wr => ∃ k : Nat, k ≤ 64 ∧ i = .int .i64 k ∧ wr.ownsRow w.heap.size 3 1 v (dnL s f k).length (iv (dnL s f k)) ∧ ArrB wr N (bitsTo s 64) ∧ Below w.heap.size w wr)
    (fun _ i _ => 64 - (intOf i).toNat)
  case atStart => exact ⟨0, Nat.zero_le _, rfl, by rw [dnL_zero]; exact HO0.out, HA0.out, HB0.out⟩
  case round =>
    obtain ⟨k, hk, rfl, hown, ha, hB⟩ := hrel
    clear HO0 HA0 HB0
    by_cases hlt : k < 64
    · have hltI : (k : Int) < 64 := by omega
      have hc1 : wr.cell? ⟨N, k, none⟩ = some (.bool (s.testBit k)) := by
        rw [ha.cell k (by omega), bitsTo_get _ _ _ hlt]; simp [hlt]
      have hlen := dnL_length s f k
      have hNlt := ha.lt
      have HNX := Hid.intro' (dn_next s f k hlt)
      have HA := Hid.intro' ha
      have HB := Hid.intro' hB
      have HW := Hid.intro' hown
      by_cases hyes : s.testBit (63 - k) = true ∧ (63 : Int) - (k : Int) ≤ f
      · obtain ⟨hy1, hy2⟩ := hyes
        have hne : u8.ownBlock ≠ some N := fun e => by
          obtain ⟨c, fz, h⟩ := Go.Lib.ownsRow_kind hown N e
          rw [show wr.heap[N]? = _ from ha] at h
          cases h
        have hc2 := bit_cell ha (63 - k) (by omega)
        rw [hy1] at hc2
        have HE := Hid.intro' (show dnL s f (k + 1) = dnL s f k ++ [63 - k] from by rw [HNX.out, if_pos ⟨hy1, hy2⟩])
        have hbsz := hB.size
        clear hy1 ha hB HNX
        rcases Bool.eq_false_or_eq_true (s.testBit k) with hb1 | hb1
        all_goals
          rw [hb1] at hc1
          go_wp2_with (at_builtin; refine wpList_append_own _ rfl _ _ 22 rfl w.heap.size 3 i0 (.int .i64 0) 1 8 Try.underlying22 hi hz0 hz1 hz2 rfl (by decide) _ _ _ rfl (HW.out.alloc _) ⟨wr.heap.size, 0, none⟩ 1 1 [.int .i64 ((63 : Int) - (k : Int))] rfl rfl (cell_one_new _ _ _) (by simp [Value.oneCell']) (by unfold maxLen; omega) (by omega) (by simp; omega) ?_; intro v' w1 hown' hgrow _; obtain ⟨g', cap', rfl⟩ := ownsRow_succ hown'; have ha1 : ArrB w1 N (bitsTo s 64) := (hgrow.block N (by simp; omega) (Ne.symm hne)).trans (HA.out.alloc _); have HA1 := Hid.intro' ha1; have HG := Hid.intro' hgrow; have HO1 := Hid.intro' hown'; clear ha1 hgrow hown')
          go_roundw
          case rel =>
            refine ⟨k + 1, by omega, by go_num, ?_, HA1.out, ?_⟩
            · rw [HE.out, iv_snoc, List.length_append, show ((63 - k : Nat) : Int) = (63 : Int) - (k : Int) by omega]; exact HO1.out
            · exact (HB.out.alloc HB.out.size _).grown HG.out (by simp; omega) (fun j e => (HW.out.lt j e).1)
          case measure => simp [intOf]; omega
      · have HE := Hid.intro' (show dnL s f (k + 1) = dnL s f k from by rw [HNX.out, if_neg hyes, List.append_nil])
        have hc2 := bit_cell ha (63 - k) (by omega)
        have HY := Hid.intro' hyes
        clear ha hB HNX hyes
        rcases Bool.eq_false_or_eq_true (s.testBit (63 - k)) with hb2 | hb2 <;> rcases Bool.eq_false_or_eq_true (s.testBit k) with hb1 | hb1
        all_goals
          rw [hb2] at hc2
          rw [hb1] at hc1
          first
            | have hf : decide ((63 : Int) - (k : Int) ≤ f) = false := by
                have := HY.out
                rw [hb2] at this
                simp at this ⊢
                omega
            | skip
          go_wp2
          go_roundw
          case rel => exact ⟨k + 1, by omega, by go_num, by rw [HE.out]; exact HW.out, HA.out, HB.out⟩
          case measure => simp [intOf]; omega
    · obtain rfl : k = 64 := by omega
      have HW := Hid.intro' hown
      have HB := Hid.intro' hB
      clear ha hB hown
      go_wp2
      go_ret
      exact ⟨_, rfl, by rw [dnL_all] at HW; exact HW.out, HB.out⟩

end Go.Proofs.Ytklekpkchpnmiaa
