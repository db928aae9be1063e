/- The document's answer for sets of floors: a truth for each floor, and back. -/
import Derived.Test.YtklekpkchpnmiaaFloorsArr
namespace Go.Proofs.Ytklekpkchpnmiaa
open Go.RowKit

/-- the truths of the first k floors -/
def bitsTo (s k : Nat) : List Bool := (List.range 64).map fun i => decide (i < k) && s.testBit i
theorem bitsTo_length (s k : Nat) : (bitsTo s k).length = 64 := by simp [bitsTo]
theorem bitsTo_zero (s : Nat) : bitsTo s 0 = zb := by
  have h : ∀ l : List Nat, l.map (fun i => decide (i < 0) && s.testBit i) = List.replicate l.length false := by
    intro l
    induction l with
    | nil => rfl
    | cons a l ih => rw [List.map_cons, ih, List.length_cons, List.replicate_succ]; simp
  unfold bitsTo
  rw [h, List.length_range]; rfl
theorem bitsTo_get (s k i : Nat) (h : i < 64) : (bitsTo s k)[i]?.getD false = (decide (i < k) && s.testBit i) := by
  unfold bitsTo; simp [h]
theorem bitsTo_succ (s k : Nat) : (bitsTo s k).set k (s.testBit k) = bitsTo s (k + 1) := by
  apply List.ext_getElem
  · simp [bitsTo]
  · intro i h1 h2
    rw [List.getElem_set]
    by_cases h : k = i
    · subst h; simp [bitsTo]
    · rw [if_neg h]
      simp only [bitsTo, List.getElem_map, List.getElem_range]
      rw [show decide (i < k) = decide (i < k + 1) from decide_eq_decide.2 (by omega)]
theorem half_bit {s k q : Nat} (h : q = s / 2 ^ k) : ((q : Int) % 2 == 1) = s.testBit k := by
  rw [Nat.testBit_eq_decide_div_mod_eq, ← h, Bool.eq_iff_iff, beq_iff_eq, decide_eq_true_iff]; omega

theorem results_cell {fn : Func} {p : Tmp} {ty : TypeId} (h : fn.results = #[.cell p ty]) (tmps : Array Value) (P : Program) (w : World) :
    (results fn tmps).run P w = ((asAddr (tmps.getD p undef)).run P w).andThen fun a w₁ => (loadVar ty a).run P w₁ := by
  simp only [results, h]
  simp [Sem.run_bind, Result.andThen]
theorem results_one40 (tmps : Array Value) (b : Nat) (w : World) {v : Value} (ht : tmps.getD 2 undef = .pointer (some ⟨b, 0, none⟩)) (hr : (loadVar 31 ⟨b, 0, none⟩).run Try.prog w = .ok v w) :
    (results Try.f40 tmps).run Try.prog w = .ok v w := by
  rw [results_cell (p := 2) (ty := 31) rfl, ht]
  show Result.andThen (.ok _ w) _ = _
  simp only [Result.andThen_ok, hr]

set_option maxRecDepth 100000 in
set_option maxHeartbeats 400000 in
theorem rall_any (s : Nat) (w : World) (hs : s < 18446744073709551616) :
    Calls Try.prog 40 #[.int .u64 s] w fun e w' => e = .returned (.agg (bv (bitsTo s 64)).toArray) ∧ Below w.heap.size w w' := by
  have hzl : zb.length = 64 := by decide
  have n0 := (ArrB.new w).alloc (.cells (bv zb).toArray 31)
  have n1 := ArrB.new (w.alloc (.cells (bv zb).toArray 31))
  rw [World.size_alloc] at n1
  have t1 := n1.there
  rw [hzl] at t1
  have T1 := Hid.intro' t1
  have m0 : ArrB (((w.alloc (.cells (bv zb).toArray 31)).alloc (.cells (bv zb).toArray 31)).setCells (w.heap.size + 1) 0 (bv zb)) w.heap.size zb := (setCells_other _ _ _ _ _ (by omega)).trans n0
  have m1 := n1.store (cs := zb) rfl
  have mB : Below w.heap.size w (((w.alloc (.cells (bv zb).toArray 31)).alloc (.cells (bv zb).toArray 31)).setCells (w.heap.size + 1) 0 (bv zb)) :=
    below_setCells _ (by omega) _ _ _ (((Below.refl _ w).alloc (Nat.le_refl _) _).alloc (by simp) _)
  have M0 := Hid.intro' m0
  have M1 := Hid.intro' m1
  have MB := Hid.intro' mB
  clear n0 n1 t1 m0 m1 mB
  go_enter Try.func40, Try.ntmps40
  go_wp2_with (first
    | (refine wpList_alloc31 w.heap.size rfl rfl rfl ?_)
    | (refine wpList_alloc31 (w.heap.size + 1) rfl rfl (World.size_alloc _ _) ?_)
    | (refine wpList_build31 rfl rfl ?_)
    | (refine wpList_store31 rfl _ _ rfl (w.heap.size + 1) zb rfl rfl T1.out hzl ?_))
  clear T1 hzl
  generalize ((w.alloc (.cells (bv zb).toArray 31)).alloc (.cells (bv zb).toArray 31)).setCells (w.heap.size + 1) 0 (bv zb) = W1 at M0 M1 MB ⊢
  go_loopw [0, 4] (fun t i wr => ∃ k : Nat, k ≤ 64 ∧ i = .int .i64 k ∧ (∃ q : Nat, q = s / 2 ^ k ∧ q < 18446744073709551616 ∧ t = .int .u64 (q : Nat)) ∧ ArrB wr w.heap.size zb ∧ ArrB wr (w.heap.size + 1) (bitsTo s k) ∧ Below w.heap.size w wr)
    (fun _ i _ => 64 - (intOf i).toNat)
  case atStart => exact ⟨0, Nat.zero_le _, rfl, ⟨s, by simp, hs, rfl⟩, M0.out, by rw [bitsTo_zero]; exact M1.out, MB.out⟩
  case round =>
    obtain ⟨k, hk, rfl, ⟨q, hq, hq2, rfl⟩, a0, a1, hB⟩ := hrel
    clear M0 M1 MB
    by_cases hlt : k < 64
    · have hc := a1.cell k (by rw [bitsTo_length]; exact hlt)
      have hf := a1.frozen k
      have hh := half_bit hq
      have A1 := Hid.intro' (a1.set k (s.testBit k))
      have A0 := Hid.intro' (a0.other (b' := w.heap.size + 1) (by omega) k (.bool (s.testBit k)))
      have HB := Hid.intro' (hB.setCell (p := ⟨w.heap.size + 1, k, none⟩) (by simp) (.bool (s.testBit k)))
      have hd : Hid (q / 2 = s / 2 ^ (k + 1)) := Hid.intro' (by rw [hq, Nat.div_div_eq_div_mul, Nat.pow_succ])
      clear a0 a1 hB hq
      go_wp2
      go_roundw
      case rel => exact ⟨k + 1, by omega, by go_num, ⟨q / 2, hd.out, by omega, by go_num⟩, A0.out, by rw [← bitsTo_succ]; exact A1.out, HB.out⟩
      case measure => simp [intOf]; omega
    · obtain rfl : k = 64 := by omega
      have h64 := bitsTo_length s 64
      have R1 := Hid.intro' a1.range
      have hzl : zb.length = 64 := by decide
      have t0 := a0.there
      rw [hzl] at t0
      have T0 := Hid.intro' t0
      have A2 := Hid.intro' (a0.store (cs := bitsTo s 64) (by rw [h64, hzl]))
      have HB := Hid.intro' (below_setCells w.heap.size (Nat.le_refl _) (bv (bitsTo s 64)) 0 wr hB)
      clear a0 a1 hB t0 hq hzl
      go_wp2_with (first
        | (refine wpList_load31 rfl _ rfl (w.heap.size + 1) (bitsTo s 64) rfl R1.out h64 ?_)
        | (refine wpList_store31 rfl _ _ rfl w.heap.size (bitsTo s 64) rfl rfl T0.out h64 ?_))
      have hr := run_loadVar_mid (P := Try.prog) (wr.setCells w.heap.size 0 (bv (bitsTo s 64))) w.heap.size 0 31 (bv (bitsTo s 64)) (.array 64 4) A2.out.range Try.underlying31 rfl (by rw [bv_length, h64]; exact info31)
      refine bodyPost_ret (v := .agg (bv (bitsTo s 64)).toArray) ?_ rfl ⟨rfl, HB.out⟩
      exact results_one40 _ _ _ rfl hr

/-- the number of truths, from the floor k on -/
def numFrom (bs : List Bool) : Nat → Nat → Nat
  | 0, n => n
  | k + 1, n => numFrom bs k (2 * n + (if bs[k]?.getD false = true then 1 else 0))
theorem numFrom_bit (bs : List Bool) : ∀ (k n i : Nat), (numFrom bs k n).testBit i = if i < k then bs[i]?.getD false else n.testBit (i - k) := by
  intro k
  induction k with
  | zero => intro n i; simp [numFrom]
  | succ k ih =>
    intro n i
    show (numFrom bs k _).testBit i = _
    obtain ⟨c, hc⟩ : ∃ c : Nat, c = if bs[k]?.getD false = true then 1 else 0 := ⟨_, rfl⟩
    rw [← hc, ih]
    have hc1 : c ≤ 1 := by rw [hc]; split <;> omega
    by_cases h1 : i < k
    · rw [if_pos h1, if_pos (by omega)]
    · rw [if_neg h1]
      by_cases h2 : i = k
      · subst h2
        rw [if_pos (by omega), Nat.sub_self, Nat.testBit_zero]
        cases hb : bs[i]?.getD false
        · rw [hb] at hc; simp at hc; subst hc; simp
        · rw [hb] at hc; simp at hc; subst hc; simp
      · rw [if_neg (by omega), show i - k = (i - (k + 1)) + 1 by omega, Nat.testBit_succ]
        congr 1
        omega
def numN (bs : List Bool) : Nat := numFrom bs 64 0
theorem numN_bit (bs : List Bool) (i : Nat) (hi : i < 64) : (numN bs).testBit i = bs[i]?.getD false := by
  unfold numN; rw [numFrom_bit, if_pos hi]
theorem numFrom_lt (bs : List Bool) : ∀ (k n : Nat), n < 2 ^ (64 - k) → k ≤ 64 → numFrom bs k n < 18446744073709551616 := by
  intro k
  induction k with
  | zero => intro n h _; simpa [numFrom] using h
  | succ k ih =>
    intro n h hk
    refine ih _ ?_ (by omega)
    rw [show 64 - k = (64 - (k + 1)) + 1 by omega, Nat.pow_succ]
    split <;> omega
theorem numN_lt (bs : List Bool) : numN bs < 18446744073709551616 := numFrom_lt bs 64 0 (by decide) (by omega)

set_option maxRecDepth 100000 in
set_option maxHeartbeats 400000 in
theorem rnumber_any (bs : List Bool) (w : World) (hl : bs.length = 64) :
    Calls Try.prog 22 #[.agg (bv bs).toArray] w fun e w' => e = .returned (.int .u64 (numN bs : Nat)) ∧ Below w.heap.size w w' := by
  have a0 : ArrB (w.alloc (.cells (bv bs).toArray 31)) w.heap.size bs := World.alloc_heap_new w _
  have hB : Below w.heap.size w (w.alloc (.cells (bv bs).toArray 31)) := (Below.refl _ w).alloc (Nat.le_refl _) _
  have HA := Hid.intro' a0
  have HB := Hid.intro' hB
  clear a0 hB
  go_enter Try.func22, Try.ntmps22
  go_wp2
  generalize w.alloc (.cells (bv bs).toArray 31) = W1 at HA HB ⊢
  go_loop [3, 4] (fun t i => ∃ k n : Nat, k ≤ 64 ∧ n < 2 ^ (64 - k) ∧ numFrom bs k n = numN bs ∧ ((k = 0 ∧ i = .int .i64 (-1)) ∨ ∃ j : Nat, k = j + 1 ∧ i = .int .i64 j) ∧ t = .int .u64 (n : Nat))
    (fun _ i => (intOf i + 1).toNat)
  case atStart => exact ⟨64, 0, Nat.le_refl _, by decide, rfl, .inr ⟨63, rfl, rfl⟩, rfl⟩
  case round =>
    obtain ⟨k, n, hk, hn, hnum, hki, rfl⟩ := hrel
    have HN := Hid.intro' hnum
    rcases hki with ⟨rfl, rfl⟩ | ⟨j, rfl, rfl⟩
    · clear hnum hn
      go_wp2
      go_ret
      exact ⟨ret_int' (by rw [← HN.out]; rfl), HB.out⟩
    · have hj : j < 64 := by omega
      have hc := HA.out.cell j (by omega)
      have hn2 : n < 9223372036854775808 := by
        have := Nat.pow_le_pow_right (n := 2) (by omega) (show 64 - (j + 1) ≤ 63 by omega)
        have e : (2 : Nat) ^ 63 = 9223372036854775808 := by decide
        omega
      have HL := Hid.intro' (show ∀ b : Nat, b ≤ 1 → 2 * n + b < 2 ^ (64 - j) from fun b hb => by
        rw [show 64 - j = (64 - (j + 1)) + 1 by omega, Nat.pow_succ]; omega)
      clear hnum hn
      cases hb : bs[j]?.getD false
      · have HE : Hid (numFrom bs j (2 * n) = numN bs) := Hid.intro' (by
          rw [← HN.out]; show _ = numFrom bs j _; rw [hb]; rfl)
        rw [hb] at hc
        clear hb
        go_wp2
        go_round
        case rel =>
          refine ⟨j, 2 * n, by omega, HL.out 0 (by omega), HE.out, ?_, by go_num⟩
          cases j with
          | zero => exact .inl ⟨rfl, rfl⟩
          | succ j => exact .inr ⟨j, rfl, by go_num⟩
        case measure => simp [intOf]
      · have HE : Hid (numFrom bs j (2 * n + 1) = numN bs) := Hid.intro' (by
          rw [← HN.out]; show _ = numFrom bs j _; rw [hb]; rfl)
        rw [hb] at hc
        clear hb
        go_wp2
        go_round
        case rel =>
          refine ⟨j, 2 * n + 1, by omega, HL.out 1 (by omega), HE.out, ?_, by go_num⟩
          cases j with
          | zero => exact .inl ⟨rfl, rfl⟩
          | succ j => exact .inr ⟨j, rfl, by go_num⟩
        case measure => simp [intOf]

end Go.Proofs.Ytklekpkchpnmiaa
