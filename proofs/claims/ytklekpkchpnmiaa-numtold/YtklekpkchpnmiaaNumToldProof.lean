/-
  For every input (two ints and a list of ints) the law NumTold answers true and leaves its arguments as they were. No condition.
  The frame of the row's step was written by the guide's own program off its print for the function; the walk is ours.
-/
import Derived.Test.YtklekpkchpnmiaaRows
import Derived.Test.YtklekpkchpnmiaaNumSums
import Derived.WalkKit
import Derived.ProofKit
import Derived.OpenShut
import Derived.ShutString
import Derived.ChangeOld
import Derived.Below
namespace Go.Proofs.Ytklekpkchpnmiaa.numTold
open Go.ChangeShapes Go.WideShapes Go.ChangeAt Go.RowKit
open Go.ChangeMaps (open_string shut_string)
set_option linter.unusedVariables false

theorem own : ownKnob Try.prog.godebug = none := by kernel_rfl
theorem laidOut : laidOutB Try.prog = true := by kernel_rfl

/-- WHAT THE WALK IS TOLD OF A SLICE OF INTEGERS THAT CAME IN: it is nil; or it leads to a row of 'cap' cells, the numbers 'zs' (the first 'len' are its elements, the rest its spare room), each fitting its kind. -/
def IsRow (k : IntKind) (w : World) (a : Option Addr) (len cap : Nat) (zs : List Int) : Prop :=
  (a = none ∧ len = 0 ∧ cap = 0 ∧ zs = []) ∨
  ∃ x, a = some x ∧ len ≤ cap ∧ cap ≤ maxLen ∧ zs.length = cap ∧ (∀ i, i < zs.length → w.cell? (x.add i) = some (.int k (zs.getD i 0))) ∧ ∀ n ∈ zs, (Lit.int k n).wf = true

/-! ### STEP 1: THE WALK -/
theorem sub_fact (a b : Int) : (NumM.cl (NumM.cl a - NumM.cl b) == NumM.cl (NumM.cl a + NumM.cl (-NumM.cl b))) = true := by
  have hb := NumM.cl_bd b
  rw [NumM.cl_in (a := -NumM.cl b) (by omega) (by omega), Int.sub_eq_add_neg]
  simp
theorem full_hi (a : Int) (h : (NumM.cl a == 1099511627776) = true) : (NumM.sz (NumM.cl a) == 1099511627776) = true := by
  simp only [beq_iff_eq] at h; rw [h]; decide
theorem full_lo (a : Int) (h : (NumM.cl a == -1099511627776) = true) : (NumM.sz (NumM.cl a) == 1099511627776) = true := by
  simp only [beq_iff_eq] at h; rw [h]; decide
theorem full_no (a : Int) (h : (NumM.cl a == 1099511627776) = false) (h' : (NumM.cl a == -1099511627776) = false) : (NumM.sz (NumM.cl a) == 1099511627776) = false := by
  simp only [beq_eq_false_iff_ne, ne_eq] at h h' ⊢
  unfold NumM.sz; split <;> omega

set_option maxHeartbeats 2000000 in
/-- the walk where the sums over the list are known -/
theorem walk_of (a0 a1 : Int) (a : Option Addr) (len cap : Nat) (s : Int) (w : World) (hl : len ≤ 100)
    (h16 : Hid (∀ w0, w0 = w → Calls Try.prog 16 #[.slice a len cap] w0 fun e w' => e = .returned (.int .i64 s) ∧ w' = w0))
    (h17 : Hid (∀ w0, w0 = w → Calls Try.prog 17 #[.slice a len cap] w0 fun e w' => e = .returned (.int .i64 s) ∧ w' = w0)) :
    Calls Try.prog 3 #[.int .i64 a0, .int .i64 a1, .slice a len cap] w fun e w' => e = .returned (.bool true) ∧ Below w.heap.size w w' := by
  obtain ⟨b1, b2⟩ := NumM.cl_bd a1
  have f1 := sub_fact a0 a1
  have key : ((NumM.cl a0 == 1099511627776) = true ∧ (NumM.sz (NumM.cl a0) == 1099511627776) = true) ∨
      ((NumM.cl a0 == 1099511627776) = false ∧ (NumM.cl a0 == -1099511627776) = true ∧ (NumM.sz (NumM.cl a0) == 1099511627776) = true) ∨
      ((NumM.cl a0 == 1099511627776) = false ∧ (NumM.cl a0 == -1099511627776) = false ∧ (NumM.sz (NumM.cl a0) == 1099511627776) = false) := by
    rcases Bool.eq_false_or_eq_true (NumM.cl a0 == 1099511627776) with h | h
    · exact .inl ⟨h, full_hi a0 h⟩
    · rcases Bool.eq_false_or_eq_true (NumM.cl a0 == -1099511627776) with h' | h'
      · exact .inr (.inl ⟨h, h', full_lo a0 h'⟩)
      · exact .inr (.inr ⟨h, h', full_no a0 h h'⟩)
  rcases key with ⟨k1, k2⟩ | ⟨k1, k2, k3⟩ | ⟨k1, k2, k3⟩
  all_goals
    go_enter Try.func3, Try.ntmps3
    go_wp2_with (first
      | (go_at_call 9; refine (speaks_any _).mono ?_; rintro e w' ⟨rfl, rfl⟩)
      | (go_at_call 10; refine (rwithin_any _ _).mono ?_; rintro e w' ⟨rfl, rfl⟩)
      | (go_at_call 11; refine (add_any _ _ _).mono ?_; rintro e w' ⟨rfl, rfl⟩)
      | (go_at_call 12; refine (radd_any _ _ _).mono ?_; rintro e w' ⟨rfl, rfl⟩)
      | (go_at_call 13; refine (sub_any _ _ _).mono ?_; rintro e w' ⟨rfl, rfl⟩)
      | (go_at_call 14; refine (mul_any _ _ _).mono ?_; rintro e w' ⟨rfl, rfl⟩)
      | (go_at_call 15; refine (rmul_any _ _ _).mono ?_; rintro e w' ⟨rfl, rfl⟩)
      | (go_at_call 16; refine (h16.out _ rfl).mono ?_; rintro e w' ⟨rfl, rfl⟩)
      | (go_at_call 17; refine (h17.out _ rfl).mono ?_; rintro e w' ⟨rfl, rfl⟩)
      | (go_at_call 18; refine (full_any _ _).mono ?_; rintro e w' ⟨rfl, rfl⟩))
    go_ret
    exact ⟨rfl, Below.refl _ _⟩

set_option maxHeartbeats 400000 in
theorem walk_long (a0 a1 : Int) (a : Option Addr) (len cap : Nat) (w : World) (hl : 100 < len) :
    Calls Try.prog 3 #[.int .i64 a0, .int .i64 a1, .slice a len cap] w fun e w' => e = .returned (.bool true) ∧ Below w.heap.size w w' := by
  go_enter Try.func3, Try.ntmps3
  go_wp2_with (go_at_call 9; refine (speaks_any _).mono ?_; rintro e w' ⟨rfl, rfl⟩)
  go_ret
  exact ⟨rfl, Below.refl _ _⟩

theorem walk (a0 : Int) (a1 : Int) (a2 : Option Addr) (len2 cap2 : Nat) (z2 : List Int) (w : World) (w0 : (Lit.int .i64 a0).wf = true) (w1 : (Lit.int .i64 a1).wf = true) (w2 : IsRow .i64 w a2 len2 cap2 z2) :
    Calls Try.prog 3 #[.int .i64 a0, .int .i64 a1, .slice a2 len2 cap2] w fun e w' => e = .returned (.bool true) ∧ Below w.heap.size w w' := by
  by_cases hl : len2 ≤ 100
  · by_cases h0 : len2 = 0
    · subst h0
      exact walk_of a0 a1 a2 0 cap2 0 w hl (fun w0 _ => sum_nil a2 cap2 w0) (fun w0 _ => rsum_nil a2 cap2 w0)
    · rcases w2 with ⟨rfl, h, _⟩ | ⟨x, rfl, hlc, hm, hz, hc, hw⟩
      · exact absurd h h0
      · obtain ⟨b, off, rfl, hc'⟩ := ints_at hc (by omega)
        have hcell : ∀ i, i < len2 → w.cell? ⟨b, off + i, none⟩ = some (.int .i64 (z2[i]?.getD 0)) := fun i hi => by
          rw [hc' i (by omega), List.getD_eq_getElem?_getD]
        exact walk_of a0 a1 _ len2 cap2 (NumM.sumL (z2.take len2)) w hl
          (fun w0 e => by subst e; exact sum_any b off len2 cap2 z2 _ (by omega) (by omega) hcell)
          (fun w0 e => by subst e; exact rsum_any b off len2 cap2 z2 _ (by omega) (by omega) hcell)
  · exact walk_long a0 a1 a2 len2 cap2 w (by omega)

/-! ### THE ROW's STEP: WRITTEN OUT: LEAVE IT -/
set_option maxRecDepth 100000 in
theorem lifted (os : Os) (started : os.Started) (H : Type) (enc : TypeId × Value → H) :
    ReturnsInHanded {} Try.checked os 3 .any (Rows.numToldSpec.pre6 enc Try.prog Try.f3 Rows.numToldRow.domain false) (Rows.numToldSpec.post enc Try.prog Try.f3 false true false false) := by
  refine returnsInHanded_of_change (C := Try.checked) own started (by kernel_rfl) Try.func3
    (ChangeSpec.witness6 (enc := enc) (C := Try.checked) false ⟨#[], #[.int .i64 0, .int .i64 0, .slice none 0 0], []⟩ 8 (by kernel_rfl) (by kernel_rfl) (by kernel_rfl) (by kernel_rfl)) ?_
  intro W base args ds gs before hval0 hW hcnd _
  have hval : ∀ (j : Nat) t v, Try.f3.params[j]? = some t → args[j]? = some v → Value.okWide Try.prog W .any base t v := hval0
  have hW' := hW
  obtain ⟨p, q, hA0, hV, rfl, hfz, hnd⟩ := hW
  have hA : DataW.TrodAll enc Try.prog W 0 (fun _ => true) true Try.f3.params.toList args.toList ds p := hA0
  rw [Try.params3] at hA hval
  obtain ⟨v0, vs0, d0, ds0, p0, q0, hargs, rfl, rfl, h0, r0⟩ := trodAll_cons hA
  obtain ⟨v1, vs1, d1, ds1, p1, q1, rfl, rfl, rfl, h1, r1⟩ := trodAll_cons r0
  obtain ⟨v2, vs2, d2, ds2, p2, q2, rfl, rfl, rfl, h2, r2⟩ := trodAll_cons r1
  obtain ⟨rfl, rfl, rfl⟩ := trodAll_nil r2
  obtain rfl : args = #[v0, v1, v2] := by cases args; simp_all
  obtain ⟨rfl, rfl⟩ := trodVars_none hV
  obtain ⟨a0, rfl, rfl, rfl, w0⟩ := open_int Try.underlying3 (hval 0 3 v0 rfl rfl) h0
  obtain ⟨a1, rfl, rfl, rfl, w1⟩ := open_int Try.underlying3 (hval 1 3 v1 rfl rfl) h1
  obtain ⟨a2, len2, cap2, rfl⟩ := okWide_slice Try.underlying22 (hval 2 22 v2 rfl rfl)
  have k2 := h2
  have lt2 : ∀ x ∈ p2, x.block < W.heap.size := by obtain ⟨m, hm⟩ := k2; exact DataW.trod_lt m _ _ _ hm
  obtain ⟨z2, w2⟩ : ∃ zs, IsRow .i64 W a2 len2 cap2 zs := by
    obtain ⟨fuel, hf⟩ := h2
    rcases open_ints Try.underlying22 Try.underlying3 (by kernel_rfl) hf with ⟨hcs, _⟩ | ⟨x, l, c, zs, hcs, _, hl, hm, hz, _, hcell, hwz⟩
    · simp [Value.cells] at hcs
      obtain ⟨rfl, rfl, rfl⟩ := hcs
      exact ⟨[], .inl ⟨rfl, rfl, rfl, rfl⟩⟩
    · simp [Value.cells] at hcs
      obtain ⟨rfl, rfl, rfl⟩ := hcs
      exact ⟨zs, .inr ⟨_, rfl, hl, hm, by simpa using hz, hcell, hwz⟩⟩
  clear hA0 hval0
  refine (walk a0 a1 a2 len2 cap2 z2 W w0 w1 w2).mono fun e W' ⟨he, bel⟩ => ?_
  subst he
  exact ⟨_, rfl, _, _, _, [], _, [], hW', trodAll_mk1 (shut_bool Try.underlying4 _), (trodAll_cons_mk (shut_int Try.underlying3 w0) (trodAll_cons_mk (shut_int Try.underlying3 w1) (trodAll_cons_mk (Below.trod laidOut (by kernel_rfl) (of_decide_eq_true (by kernel_rfl)) k2 bel lt2) trodAll_mk0))), rfl, bel.frame _, fun h => by cases h⟩

theorem over : Rows.numToldRow.holds Try.pinned (OpenSpec.ofChange Rows.numToldSpec) :=
  OpenClaim.holds_of_wide 3 Try.f3 rfl rfl rfl rfl rfl rfl rfl ⟨rfl, rfl, rfl, rfl, rfl⟩ rfl rfl rfl rfl rfl (by kernel_rfl) Try.func3 (by kernel_rfl)
    (of_decide_eq_true (by kernel_rfl)) (by unfold Func.isWrapper; first | (rw [if_pos (by decide +kernel)]; kernel_rfl) | (rw [if_neg (by decide +kernel)]; exact ⟨rfl, rfl⟩))
    (fun os started H enc _ => lifted os started H enc)

/-- the statement -/
theorem proved : Rows.NumToldSaid := over
#print axioms proved
end Go.Proofs.Ytklekpkchpnmiaa.numTold
