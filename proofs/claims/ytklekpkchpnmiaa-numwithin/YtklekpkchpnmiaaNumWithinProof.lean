/-
  For every input (two ints and a list of ints) the law NumWithin answers true and leaves its arguments as they were. No condition.
  The frame of the row's step was written by the guide's own program off its print for the function; the walk is ours.
-/
import Derived.Test.YtklekpkchpnmiaaRows
import Derived.Test.YtklekpkchpnmiaaNumSums
import Derived.WalkKit
import Derived.ProofKit
import Derived.OpenShut
import Derived.ShutString
import Derived.ChangeOld
import Derived.Below
namespace Go.Proofs.Ytklekpkchpnmiaa.numWithin
open Go.ChangeShapes Go.WideShapes Go.ChangeAt Go.RowKit
open Go.ChangeMaps (open_string shut_string)
set_option linter.unusedVariables false

theorem own : ownKnob Try.prog.godebug = none := by kernel_rfl
theorem laidOut : laidOutB Try.prog = true := by kernel_rfl

/-- WHAT THE WALK IS TOLD OF A SLICE OF INTEGERS THAT CAME IN: it is nil; or it leads to a row of 'cap' cells, the numbers 'zs' (the first 'len' are its elements, the rest its spare room), each fitting its kind. -/
def IsRow (k : IntKind) (w : World) (a : Option Addr) (len cap : Nat) (zs : List Int) : Prop :=
  (a = none ∧ len = 0 ∧ cap = 0 ∧ zs = []) ∨
  ∃ x, a = some x ∧ len ≤ cap ∧ cap ≤ maxLen ∧ zs.length = cap ∧ (∀ i, i < zs.length → w.cell? (x.add i) = some (.int k (zs.getD i 0))) ∧ ∀ n ∈ zs, (Lit.int k n).wf = true

/-! ### STEP 1: THE WALK -/
/-- what the law's own small function asks -/
def smB (a : Int) : Bool := decide (-524288 < a) && decide (a < 524288)
theorem smB_bd {a : Int} (h : smB a = true) : -524288 < a ∧ a < 524288 := by
  unfold smB at h; simpa using h
set_option maxHeartbeats 400000 in
theorem small_any (a : Int) (w : World) : Calls Try.prog 19 #[.int .i64 a] w fun e w' => e = .returned (.bool (smB a)) ∧ w' = w := by
  by_cases h1 : -524288 < a
  · by_cases h2 : a < 524288
    · have hb : smB a = true := by unfold smB; simp [h1, h2]
      rw [hb]
      go_enter Try.func19, Try.ntmps19
      go_wp2
      go_ret
      exact ⟨rfl, rfl⟩
    · have hb : smB a = false := by unfold smB; simp [h2]
      rw [hb]
      go_enter Try.func19, Try.ntmps19
      go_wp2
      go_ret
      exact ⟨by simp, rfl⟩
  · have hb : smB a = false := by unfold smB; simp [h1]
    have h1' : decide (-524288 < a) = false := by simp; omega
    rw [hb]
    go_enter Try.func19, Try.ntmps19
    go_wp2
    go_ret
    exact ⟨by simp, rfl⟩

theorem row4 (w : World) (v0 v1 v2 v3 : Int) (h0 : -1099511627776 ≤ v0 ∧ v0 ≤ 1099511627776) (h1 : -1099511627776 ≤ v1 ∧ v1 ≤ 1099511627776)
    (h2 : -1099511627776 ≤ v2 ∧ v2 ≤ 1099511627776) (h3 : -1099511627776 ≤ v3 ∧ v3 ≤ 1099511627776) (k : Nat) (hk : k < 4) :
    ∃ n : Int, -1099511627776 ≤ n ∧ n ≤ 1099511627776 ∧ (w.alloc (.cells #[.int .i64 v0, .int .i64 v1, .int .i64 v2, .int .i64 v3] 3)).cell? ⟨w.heap.size, k, none⟩ = some (.int .i64 n) := by
  rw [World.cell?_alloc_new]
  match k, hk with
  | 0, _ => exact ⟨v0, h0.1, h0.2, rfl⟩
  | 1, _ => exact ⟨v1, h1.1, h1.2, rfl⟩
  | 2, _ => exact ⟨v2, h2.1, h2.2, rfl⟩
  | 3, _ => exact ⟨v3, h3.1, h3.2, rfl⟩

theorem full_key (n : Int) (h1 : -1099511627776 ≤ n) (h2 : n ≤ 1099511627776) :
    ((n == 1099511627776) = true ∧ (NumM.sz (NumM.cl n) == 1099511627776) = true) ∨
      ((n == 1099511627776) = false ∧ (n == -1099511627776) = true ∧ (NumM.sz (NumM.cl n) == 1099511627776) = true) ∨
      ((n == 1099511627776) = false ∧ (n == -1099511627776) = false ∧ (NumM.sz (NumM.cl n) == 1099511627776) = false) := by
  rw [NumM.cl_in h1 h2]
  by_cases a : n = 1099511627776
  · left; subst a; decide
  · by_cases b : n = -1099511627776
    · right; left; subst b; decide
    · right; right
      simp only [beq_eq_false_iff_ne, ne_eq]
      refine ⟨a, b, ?_⟩
      unfold NumM.sz; split <;> omega

theorem add_small {a b : Int} (ha : -524288 < a ∧ a < 524288) (hb : -524288 < b ∧ b < 524288) : (NumM.cl (NumM.cl a + NumM.cl b) == a + b) = true := by
  rw [NumM.cl_in (a := a) (by omega) (by omega), NumM.cl_in (a := b) (by omega) (by omega), NumM.cl_in (by omega) (by omega)]; simp
theorem sub_small {a b : Int} (ha : -524288 < a ∧ a < 524288) (hb : -524288 < b ∧ b < 524288) : (NumM.cl (NumM.cl a - NumM.cl b) == a - b) = true := by
  rw [NumM.cl_in (a := a) (by omega) (by omega), NumM.cl_in (a := b) (by omega) (by omega), NumM.cl_in (by omega) (by omega)]; simp
theorem mul_bd {a b : Int} (ha : -524288 < a ∧ a < 524288) (hb : -524288 < b ∧ b < 524288) : -274877906944 ≤ a * b ∧ a * b ≤ 274877906944 := by
  have h1 : NumM.sz a ≤ 524288 := by unfold NumM.sz; split <;> omega
  have h2 : NumM.sz b ≤ 524288 := by unfold NumM.sz; split <;> omega
  have h3 := Int.mul_le_mul h1 h2 (NumM.sz_nonneg b) (by omega)
  rw [← NumM.sz_mul] at h3
  by_cases hm : a * b < 0
  · rw [NumM.sz_neg hm] at h3; omega
  · rw [NumM.sz_nn (by omega)] at h3; omega
theorem mul_small' {a b : Int} (ha : -524288 < a ∧ a < 524288) (hb : -524288 < b ∧ b < 524288) : (NumM.cl (NumM.cl a * NumM.cl b) == a * b) = true := by
  have := mul_bd ha hb
  rw [NumM.cl_in (a := a) (by omega) (by omega), NumM.cl_in (a := b) (by omega) (by omega), NumM.cl_in (by omega) (by omega)]; simp

set_option maxHeartbeats 4000000 in
theorem walk_of (a0 a1 : Int) (a : Option Addr) (len cap : Nat) (s : Int) (w : World) (hl : len ≤ 100) (hs : -1099511627776 ≤ s ∧ s ≤ 1099511627776)
    (h16 : Hid (∀ w0, w0 = w → Calls Try.prog 16 #[.slice a len cap] w0 fun e w' => e = .returned (.int .i64 s) ∧ w' = w0)) :
    Calls Try.prog 5 #[.int .i64 a0, .int .i64 a1, .slice a len cap] w fun e w' => e = .returned (.bool true) ∧ Below w.heap.size w w' := by
  go_enter Try.func5, Try.ntmps5
  go_wp2_with (first
    | (go_at_call 9; refine (speaks_any _).mono ?_; rintro e w' ⟨rfl, rfl⟩)
    | (go_at_call 11; refine (add_any _ _ _).mono ?_; rintro e w' ⟨rfl, rfl⟩)
    | (go_at_call 13; refine (sub_any _ _ _).mono ?_; rintro e w' ⟨rfl, rfl⟩)
    | (go_at_call 14; refine (mul_any _ _ _).mono ?_; rintro e w' ⟨rfl, rfl⟩)
    | (go_at_call 16; refine (h16.out _ rfl).mono ?_; rintro e w' ⟨rfl, rfl⟩))
  clear h16
  have hrow := row4 w' (NumM.cl (NumM.cl a0 + NumM.cl a1)) (NumM.cl (NumM.cl a0 - NumM.cl a1)) (NumM.cl (NumM.cl a0 * NumM.cl a1)) s (NumM.cl_bd _) (NumM.cl_bd _) (NumM.cl_bd _) hs
  have hB : Below w'.heap.size w' (w'.alloc (.cells #[.int .i64 (NumM.cl (NumM.cl a0 + NumM.cl a1)), .int .i64 (NumM.cl (NumM.cl a0 - NumM.cl a1)), .int .i64 (NumM.cl (NumM.cl a0 * NumM.cl a1)), .int .i64 s] 3)) := (Below.refl _ _).alloc (Nat.le_refl _) _
  generalize w'.alloc (.cells #[.int .i64 (NumM.cl (NumM.cl a0 + NumM.cl a1)), .int .i64 (NumM.cl (NumM.cl a0 - NumM.cl a1)), .int .i64 (NumM.cl (NumM.cl a0 * NumM.cl a1)), .int .i64 s] 3) = W1 at hrow hB ⊢
  have HB : Hid (Below w'.heap.size w' W1) := hB
  clear hB
  go_loop [28] (fun i => ∃ k : Nat, k ≤ 4 ∧ i = .int .i64 k) (fun i => 4 - (intOf i).toNat)
  case atStart => exact ⟨0, Nat.zero_le _, rfl⟩
  case round =>
    obtain ⟨k, hk, rfl⟩ := hrel
    by_cases hlt : k < 4
    · obtain ⟨n, n1, n2, hcell⟩ := hrow k hlt
      clear hrow
      rcases full_key n n1 n2 with ⟨k1, k2⟩ | ⟨k1, k2, k3⟩ | ⟨k1, k2, k3⟩
      all_goals
        go_wp2_with (go_at_call 18; refine (full_any _ _).mono ?_; rintro e w' ⟨rfl, rfl⟩)
        go_round
        case rel => exact ⟨k + 1, by omega, by go_num⟩
        case measure => simp [intOf]; omega
    · obtain rfl : k = 4 := by omega
      clear hrow
      rcases Bool.eq_false_or_eq_true (smB a0) with x0 | x0
      · rcases Bool.eq_false_or_eq_true (smB a1) with x1 | x1
        · have f1 := add_small (smB_bd x0) (smB_bd x1)
          have f2 := sub_small (smB_bd x0) (smB_bd x1)
          have f3 := mul_small' (smB_bd x0) (smB_bd x1)
          obtain ⟨g1, g2⟩ := smB_bd x0
          obtain ⟨g3, g4⟩ := smB_bd x1
          obtain ⟨g5, g6⟩ := mul_bd (smB_bd x0) (smB_bd x1)
          go_wp2_with (first
            | (go_at_call 19; refine (small_any _ _).mono ?_; rintro e w' ⟨rfl, rfl⟩)
            | (go_at_call 11; refine (add_any _ _ _).mono ?_; rintro e w' ⟨rfl, rfl⟩)
            | (go_at_call 13; refine (sub_any _ _ _).mono ?_; rintro e w' ⟨rfl, rfl⟩)
            | (go_at_call 14; refine (mul_any _ _ _).mono ?_; rintro e w' ⟨rfl, rfl⟩))
          go_ret
          exact ⟨rfl, HB.out⟩
        · go_wp2_with (first
            | (go_at_call 19; refine (small_any _ _).mono ?_; rintro e w' ⟨rfl, rfl⟩))
          go_ret
          exact ⟨rfl, HB.out⟩
      · go_wp2_with (first
          | (go_at_call 19; refine (small_any _ _).mono ?_; rintro e w' ⟨rfl, rfl⟩))
        go_ret
        exact ⟨rfl, HB.out⟩

set_option maxHeartbeats 400000 in
theorem walk_long (a0 a1 : Int) (a : Option Addr) (len cap : Nat) (w : World) (hl : 100 < len) :
    Calls Try.prog 5 #[.int .i64 a0, .int .i64 a1, .slice a len cap] w fun e w' => e = .returned (.bool true) ∧ Below w.heap.size w w' := by
  go_enter Try.func5, Try.ntmps5
  go_wp2_with (go_at_call 9; refine (speaks_any _).mono ?_; rintro e w' ⟨rfl, rfl⟩)
  go_ret
  exact ⟨rfl, Below.refl _ _⟩

theorem walk (a0 : Int) (a1 : Int) (a2 : Option Addr) (len2 cap2 : Nat) (z2 : List Int) (w : World) (w0 : (Lit.int .i64 a0).wf = true) (w1 : (Lit.int .i64 a1).wf = true) (w2 : IsRow .i64 w a2 len2 cap2 z2) :
    Calls Try.prog 5 #[.int .i64 a0, .int .i64 a1, .slice a2 len2 cap2] w fun e w' => e = .returned (.bool true) ∧ Below w.heap.size w w' := by
  by_cases hl : len2 ≤ 100
  · by_cases h0 : len2 = 0
    · subst h0
      exact walk_of a0 a1 a2 0 cap2 0 w hl (by omega) (fun w0 _ => sum_nil a2 cap2 w0)
    · rcases w2 with ⟨rfl, h, _⟩ | ⟨x, rfl, hlc, hm, hz, hc, hw⟩
      · exact absurd h h0
      · obtain ⟨b, off, rfl, hc'⟩ := ints_at hc (by omega)
        have hcell : ∀ i, i < len2 → w.cell? ⟨b, off + i, none⟩ = some (.int .i64 (z2[i]?.getD 0)) := fun i hi => by
          rw [hc' i (by omega), List.getD_eq_getElem?_getD]
        exact walk_of a0 a1 _ len2 cap2 (NumM.sumL (z2.take len2)) w hl (NumM.sumL_bd _)
          (fun w0 e => by subst e; exact sum_any b off len2 cap2 z2 _ (by omega) (by omega) hcell)
  · exact walk_long a0 a1 a2 len2 cap2 w (by omega)

/-! ### THE ROW's STEP -/
set_option maxRecDepth 100000 in
theorem lifted (os : Os) (started : os.Started) (H : Type) (enc : TypeId × Value → H) :
    ReturnsInHanded {} Try.checked os 5 .any (Rows.numWithinSpec.pre6 enc Try.prog Try.f5 Rows.numWithinRow.domain false) (Rows.numWithinSpec.post enc Try.prog Try.f5 false true false false) := by
  refine returnsInHanded_of_change (C := Try.checked) own started (by kernel_rfl) Try.func5
    (ChangeSpec.witness6 (enc := enc) (C := Try.checked) false ⟨#[], #[.int .i64 0, .int .i64 0, .slice none 0 0], []⟩ 8 (by kernel_rfl) (by kernel_rfl) (by kernel_rfl) (by kernel_rfl)) ?_
  intro W base args ds gs before hval0 hW hcnd _
  have hval : ∀ (j : Nat) t v, Try.f5.params[j]? = some t → args[j]? = some v → Value.okWide Try.prog W .any base t v := hval0
  have hW' := hW
  obtain ⟨p, q, hA0, hV, rfl, hfz, hnd⟩ := hW
  have hA : DataW.TrodAll enc Try.prog W 0 (fun _ => true) true Try.f5.params.toList args.toList ds p := hA0
  rw [Try.params5] at hA hval
  obtain ⟨v0, vs0, d0, ds0, p0, q0, hargs, rfl, rfl, h0, r0⟩ := trodAll_cons hA
  obtain ⟨v1, vs1, d1, ds1, p1, q1, rfl, rfl, rfl, h1, r1⟩ := trodAll_cons r0
  obtain ⟨v2, vs2, d2, ds2, p2, q2, rfl, rfl, rfl, h2, r2⟩ := trodAll_cons r1
  obtain ⟨rfl, rfl, rfl⟩ := trodAll_nil r2
  obtain rfl : args = #[v0, v1, v2] := by cases args; simp_all
  obtain ⟨rfl, rfl⟩ := trodVars_none hV
  obtain ⟨a0, rfl, rfl, rfl, w0⟩ := open_int Try.underlying3 (hval 0 3 v0 rfl rfl) h0
  obtain ⟨a1, rfl, rfl, rfl, w1⟩ := open_int Try.underlying3 (hval 1 3 v1 rfl rfl) h1
  obtain ⟨a2, len2, cap2, rfl⟩ := okWide_slice Try.underlying22 (hval 2 22 v2 rfl rfl)
  have k2 := h2
  have lt2 : ∀ x ∈ p2, x.block < W.heap.size := by obtain ⟨m, hm⟩ := k2; exact DataW.trod_lt m _ _ _ hm
  obtain ⟨z2, w2⟩ : ∃ zs, IsRow .i64 W a2 len2 cap2 zs := by
    obtain ⟨fuel, hf⟩ := h2
    rcases open_ints Try.underlying22 Try.underlying3 (by kernel_rfl) hf with ⟨hcs, _⟩ | ⟨x, l, c, zs, hcs, _, hl, hm, hz, _, hcell, hwz⟩
    · simp [Value.cells] at hcs
      obtain ⟨rfl, rfl, rfl⟩ := hcs
      exact ⟨[], .inl ⟨rfl, rfl, rfl, rfl⟩⟩
    · simp [Value.cells] at hcs
      obtain ⟨rfl, rfl, rfl⟩ := hcs
      exact ⟨zs, .inr ⟨_, rfl, hl, hm, by simpa using hz, hcell, hwz⟩⟩
  clear hA0 hval0
  refine (walk a0 a1 a2 len2 cap2 z2 W w0 w1 w2).mono fun e W' ⟨he, bel⟩ => ?_
  subst he
  exact ⟨_, rfl, _, _, _, [], _, [], hW', trodAll_mk1 (shut_bool Try.underlying4 _), (trodAll_cons_mk (shut_int Try.underlying3 w0) (trodAll_cons_mk (shut_int Try.underlying3 w1) (trodAll_cons_mk (Below.trod laidOut (by kernel_rfl) (of_decide_eq_true (by kernel_rfl)) k2 bel lt2) trodAll_mk0))), rfl, bel.frame _, fun h => by cases h⟩

theorem over : Rows.numWithinRow.holds Try.pinned (OpenSpec.ofChange Rows.numWithinSpec) :=
  OpenClaim.holds_of_wide 5 Try.f5 rfl rfl rfl rfl rfl rfl rfl ⟨rfl, rfl, rfl, rfl, rfl⟩ rfl rfl rfl rfl rfl (by kernel_rfl) Try.func5 (by kernel_rfl)
    (of_decide_eq_true (by kernel_rfl)) (by unfold Func.isWrapper; first | (rw [if_pos (by decide +kernel)]; kernel_rfl) | (rw [if_neg (by decide +kernel)]; exact ⟨rfl, rfl⟩))
    (fun os started H enc _ => lifted os started H enc)

/-- the statement -/
theorem proved : Rows.NumWithinSaid := over
#print axioms proved
end Go.Proofs.Ytklekpkchpnmiaa.numWithin
