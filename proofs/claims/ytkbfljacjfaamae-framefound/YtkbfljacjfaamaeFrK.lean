/- slices.Grow, slices.Concat and slices.Clone of bytes. -/
import Derived.Test.YtkbfljacjfaamaeFrJ
import Derived.Lib.AppendZeros
import Derived.Lib.SliceRun
namespace Go.Proofs.Ytkbfljacjfaamae
open Go.RowKit

theorem Below.heap_grow {w : World} (cs : Array Value) (t : TypeId) : Below w.heap.size w (w.drew.alloc (.cells cs t)) := ((Below.refl w.heap.size w).drew).alloc (Nat.le_refl _) _

/-- what an append of n zeros to nil is -/
structure GR (w : World) (n c : Nat) (W1 : World) : Prop where
  run : (Builtin.append_ #[23, 3] 23 #[.slice none 0 0, .int .i64 (n : Int)]).run Try.prog w = .ok (.slice (some ⟨w.heap.size, 0, none⟩) n c) W1

set_option maxHeartbeats 1000000 in
theorem grow_any (n : Nat) (hn : n ≤ 1000000) (w : World) :
    Calls Try.prog 19 #[.slice none 0 0, .int .i64 (n : Int)] w fun e w' => ∃ v, e = .returned v ∧ OW w' w.heap.size v [] ∧ Below w.heap.size w w' := by
  obtain ⟨i0, hi, hz0, hz1, hz2⟩ := info_parts infoB
  rcases Nat.eq_zero_or_pos n with rfl | hp
  · go_enter Try.func19, Try.ntmps19
    go_wp2
    go_ret
    exact ⟨_, rfl, OW.nil _ _, Below.refl _ _⟩
  · have hnz : (0 : Int) < (n : Int) := by omega
    have happ := Lib.run_append_nil_zeros (P := Try.prog) w 23 3 23 5 i0 (.int .u8 0) .i64 .i64 Try.underlying23 Try.underlying3 hi hz0 n hp (by omega) (by omega) (by rw [hz2]; omega)
    have hge := grownCap_ge w n 0 5
    have hle := grownCap_le_maxLen w n 0 5 (by unfold maxLen; omega)
    generalize grownCap w n 0 5 = c at happ hge hle
    obtain ⟨W1, HA, hO, hB⟩ : ∃ W1, GR w n c W1 ∧ OW W1 w.heap.size (.slice (some ⟨w.heap.size, 0, none⟩) 0 c) [] ∧ Below w.heap.size w W1 := by
      refine ⟨_, ⟨happ⟩, ?_, Below.heap_grow _ _⟩
      refine World.ownsRow_made w.drew _ c (Nat.le_refl _) hle ?_
      rw [Array.size_append, size_zeroCells, size_zeroCells]
      show n * 1 + (c - n) * 1 = c * 1
      omega
    have HO := Hid.intro' hO
    have HB := Hid.intro' hB
    have hn2 : (n : Int) ≤ 1000000 := by omega
    clear hle hge hn hi hz0 hz1 hz2 happ hO hB hp
    go_enter Try.func19, Try.ntmps19
    go_wp2_with (at_builtin; refine Lib.wpList_append_run _ rfl _ _ _ _ rfl _ _ rfl rfl _ _ HA.run ?_)
    go_ret
    exact ⟨_, rfl, HO.out, HB.out⟩

set_option maxHeartbeats 1000000 in
theorem clone_any (v : Value) (l : List Nat) (w : World) (h : RD w v l) (hl : l.length ≤ 1000) :
    Calls Try.prog 17 #[v] w fun e w' => ∃ v', e = .returned v' ∧ OW w' w.heap.size v' l ∧ Below w.heap.size w w' := by
  have q30 : ∀ (w : World) (a : Option Addr) (n c n' c' : Nat), (binOp .eql 23 (.slice a n c) (.slice none n' c')).run Try.prog w = .ok (.bool a.isNone) w := fun w a n c n' c' => Lib.run_eql_slice_nil w _ _ a n c n' c' Try.underlying23
  have HR := Hid.intro' h
  obtain ⟨a, cap, rfl, hc, hm, _⟩ := h.form
  cases a with
  | none =>
    obtain ⟨_, rfl, rfl⟩ := h.nilv
    clear h
    go_enter Try.func17, Try.ntmps17
    go_wp2
    go_ret
    exact ⟨_, rfl, OW.nil _ _, Below.refl _ _⟩
  | some ad =>
    clear h
    go_enter Try.func17, Try.ntmps17
    go_wp2_with (at_builtin; refine wpList_appendR rfl _ _ rfl w.heap.size _ _ [] l rfl ?qc1 rfl ?qc2 ?qc3 ?qc4 ?_)
    case qc1 => exact OW.lit (B := w.heap.size) w [] (Nat.le_refl _) (Nat.zero_le _)
    case qc2 => exact HR.out.alloc _
    case qc3 => simp; omega
    case qc4 => simp
    intro v2 W2 ho2 hg2
    have hb2 := made_grown hg2 rfl
    have HO := Hid.intro' ho2
    have HB := Hid.intro' hb2
    clear ho2 hg2 hb2
    go_wp2
    go_ret
    exact ⟨v2, rfl, HO.out, HB.out⟩

set_option maxHeartbeats 1000000 in
theorem concat_any (g : Nat) (u v : Value) (l m : List Nat) (w : World) (h0 : w.cell? ⟨g, 0, none⟩ = some u) (h1 : w.cell? ⟨g, 1, none⟩ = some v) (hg : g < w.heap.size) (hu : RD w u l) (hv : RD w v m) (hl : l.length ≤ 1000) (hm : m.length ≤ 1000) :
    Calls Try.prog 15 #[.slice (some ⟨g, 0, none⟩) 2 2] w fun e w' => ∃ v', e = .returned v' ∧ OW w' w.heap.size v' (l ++ m) ∧ Below w.heap.size w w' := by
  have HU := Hid.intro' hu
  have HV := Hid.intro' hv
  obtain ⟨a, c, rfl, _, _, _⟩ := hu.form
  obtain ⟨b, d, rfl, _, _, _⟩ := hv.form
  clear hu hv
  go_enter Try.func15, Try.ntmps15
  go_wp2
  refine wp_loop_rounds 3 ?_
  rw [rounds_succ]
  go_wp2
  rw [rounds_succ]
  go_wp2
  rw [rounds_succ]
  go_wp2_with fail
  have hgr := grow_any (l.length + m.length) (by omega) w
  rw [Int.natCast_add] at hgr
  refine hgr.mono ?_
  rintro e W1 ⟨v1, rfl, ho1, hb1⟩
  have HO1 := Hid.intro' ho1
  have HB1 := Hid.intro' hb1
  have k0 : W1.cell? ⟨g, 0, none⟩ = some (.slice a l.length c) := (hb1.cell (p := ⟨g, 0, none⟩) hg).trans h0
  clear hgr ho1 hb1
  go_wp2
  refine wp_loop_rounds 3 ?_
  rw [rounds_succ]
  go_wp2_with (at_builtin; refine wpList_appendR rfl _ _ rfl w.heap.size _ _ [] l rfl HO1.out rfl (HU.out.below' HB1.out) (by simp; omega) HB1.out.size ?_)
  intro v2 W2 ho2 hg2
  have hb2 := HB1.out.grown hg2 HB1.out.size (fun k hk => (HO1.out.lt k hk).1)
  have HO2 := Hid.intro' ho2
  have HB2 := Hid.intro' hb2
  have k1 : W2.cell? ⟨g, 1, none⟩ = some (.slice b m.length d) := (hb2.cell (p := ⟨g, 1, none⟩) hg).trans h1
  clear ho2 hg2 hb2 HO1 HB1 k0
  go_wp2
  rw [rounds_succ]
  go_wp2_with (at_builtin; refine wpList_appendR rfl _ _ rfl w.heap.size _ _ l m rfl HO2.out rfl (HV.out.below' HB2.out) (by omega) HB2.out.size ?_)
  intro v3 W3 ho3 hg3
  have hb3 := HB2.out.grown hg3 HB2.out.size (fun k hk => (HO2.out.lt k hk).1)
  have HO3 := Hid.intro' ho3
  have HB3 := Hid.intro' hb3
  clear ho3 hg3 hb3 HO2 HB2 k1
  go_wp2
  rw [rounds_succ]
  go_wp2
  go_ret
  exact ⟨v3, rfl, HO3.out, HB3.out⟩

end Go.Proofs.Ytkbfljacjfaamae
