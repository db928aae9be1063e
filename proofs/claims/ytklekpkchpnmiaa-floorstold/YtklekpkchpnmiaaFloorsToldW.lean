/- The walk of the law FloorsTold. -/
import Derived.Test.YtklekpkchpnmiaaFloorsCopy
namespace Go.Proofs.Ytklekpkchpnmiaa
open Go.RowKit

/-- the truths of the floors of a list -/
def wantL (l : List Int) : List Bool := (List.range 64).map fun i : Nat => l.contains (i : Int)
theorem wantL_length (l : List Int) : (wantL l).length = 64 := by simp [wantL]
theorem wantL_nil : wantL [] = zb := by
  have h : ∀ l : List Nat, l.map (fun i : Nat => ([] : List Int).contains (i : Int)) = List.replicate l.length false := by
    intro l
    induction l with
    | nil => rfl
    | cons a l ih => rw [List.map_cons, ih, List.length_cons, List.replicate_succ]; simp
  unfold wantL
  rw [h, List.length_range]; rfl
theorem wantL_get (l : List Int) (i : Nat) (h : i < 64) : (wantL l)[i]?.getD false = l.contains (i : Int) := by
  unfold wantL; simp [h]
theorem wantL_in (l : List Int) (f : Nat) : (wantL l).set f true = wantL (l ++ [(f : Int)]) := by
  apply List.ext_getElem
  · simp [wantL]
  · intro i h1 h2
    rw [List.getElem_set]
    simp only [wantL, List.getElem_map, List.getElem_range]
    by_cases e : f = i
    · subst e; simp
    · rw [if_neg e, Bool.eq_iff_iff]
      simp only [List.contains_iff_mem, List.mem_append, List.mem_singleton]
      constructor
      · intro h; exact .inl h
      · rintro (h | h)
        · exact h
        · omega
theorem wantL_out (l : List Int) (f : Int) (h : ¬ (0 ≤ f ∧ f < 64)) : wantL l = wantL (l ++ [f]) := by
  apply List.ext_getElem
  · simp [wantL]
  · intro i h1 h2
    simp only [wantL, List.getElem_map, List.getElem_range]
    have hi : i < 64 := by simpa [wantL] using h1
    rw [Bool.eq_iff_iff]
    simp only [List.contains_iff_mem, List.mem_append, List.mem_singleton]
    constructor
    · intro h; exact .inl h
    · rintro (h | h)
      · exact h
      · omega
/-- the floors below one, as far as they have been laid -/
def belowL (n : Int) (k : Nat) : List Bool := (List.range 64).map fun i : Nat => decide (i < k) && decide ((i : Int) < n)
theorem belowL_length (n : Int) (k : Nat) : (belowL n k).length = 64 := by simp [belowL]
theorem belowL_zero (n : Int) : belowL n 0 = zb := by
  have h : ∀ l : List Nat, l.map (fun i : Nat => decide (i < 0) && decide ((i : Int) < n)) = List.replicate l.length false := by
    intro l
    induction l with
    | nil => rfl
    | cons a l ih => rw [List.map_cons, ih, List.length_cons, List.replicate_succ]; simp
  unfold belowL
  rw [h, List.length_range]; rfl
theorem belowL_get (n : Int) (k i : Nat) (h : i < 64) : (belowL n k)[i]?.getD false = (decide (i < k) && decide ((i : Int) < n)) := by
  unfold belowL; simp [h]
theorem belowL_succ (n : Int) (k : Nat) : (belowL n k).set k (decide ((k : Int) < n)) = belowL n (k + 1) := by
  apply List.ext_getElem
  · simp [belowL]
  · intro i h1 h2
    rw [List.getElem_set]
    by_cases h : k = i
    · subst h; simp [belowL]
    · rw [if_neg h]
      simp only [belowL, List.getElem_map, List.getElem_range]
      rw [show decide (i < k) = decide (i < k + 1) from decide_eq_decide.2 (by omega)]

theorem num_of (zs : List Int) : numN (wantL zs) = ofN zs := FM.eq_of_bits (numN_lt _) (ofN_lt _) (fun i hi => by rw [numN_bit _ i hi, wantL_get _ i hi, ofN_bit _ i hi])
theorem num_to (n : Int) : numN (belowL n 64) = toN n := FM.eq_of_bits (numN_lt _) (toN_lt _) (fun i hi => by rw [numN_bit _ i hi, belowL_get _ _ i hi, toN_bit _ i hi]; simp [hi])
/-- how many of the first k -/
theorem cnt_step (s k : Nat) : FM.cnt s (k + 1) = FM.cnt s k + (if s.testBit k = true then 1 else 0) := rfl

theorem set_get (bs : List Bool) (g i : Nat) (v : Bool) (hg : g < bs.length) : (bs.set g v)[i]?.getD false = if g = i then v else bs[i]?.getD false := by
  rw [List.getElem?_set]
  by_cases h : g = i
  · subst h; simp [hg]
  · simp [h]
theorem num_with (L : List Int) (g : Nat) (hg : g < 64) : numN ((wantL L).set g true) = FM.withN (ofN L) (g : Int) :=
  FM.eq_of_bits (numN_lt _) (FM.withN_lt _ (ofN_lt _)) (fun i hi => by
    rw [numN_bit _ i hi, set_get _ _ _ _ (by rw [wantL_length]; exact hg), wantL_get _ i hi, FM.withN_bit _ _ i hi, ofN_bit _ i hi]
    by_cases h : g = i
    · subst h; simp
    · have : ¬ (g : Int) = (i : Int) := by omega
      rw [if_neg h, decide_eq_false this]; simp)
theorem num_less (L : List Int) (g : Nat) (hg : g < 64) : numN ((wantL L).set g false) = FM.lessN (ofN L) (g : Int) :=
  FM.eq_of_bits (numN_lt _) (FM.lessN_lt _ (ofN_lt _)) (fun i hi => by
    rw [numN_bit _ i hi, set_get _ _ _ _ (by rw [wantL_length]; exact hg), wantL_get _ i hi, FM.lessN_bit _ _ i hi, ofN_bit _ i hi]
    by_cases h : g = i
    · subst h; simp
    · have : ¬ (g : Int) = (i : Int) := by omega
      rw [if_neg h, decide_eq_false this]; simp)
theorem with_out (L : List Int) (f : Int) (h : ¬ (0 ≤ f ∧ f < 64)) : numN (wantL L) = FM.withN (ofN L) f := by
  rw [num_of]
  refine FM.eq_of_bits (ofN_lt _) (FM.withN_lt _ (ofN_lt _)) (fun i hi => ?_)
  rw [FM.withN_bit _ _ i hi]
  have : ¬ f = (i : Int) := by omega
  simp [this]
theorem less_out (L : List Int) (f : Int) (h : ¬ (0 ≤ f ∧ f < 64)) : numN (wantL L) = FM.lessN (ofN L) f := by
  rw [num_of]
  refine FM.eq_of_bits (ofN_lt _) (FM.lessN_lt _ (ofN_lt _)) (fun i hi => ?_)
  rw [FM.lessN_bit _ _ i hi]
  have : ¬ f = (i : Int) := by omega
  simp [this]
theorem has_out (s : Nat) (f : Int) (h : ¬ (0 ≤ f ∧ f < 64)) : FM.hasN s f = false := by
  unfold FM.hasN
  by_cases h1 : 0 ≤ f
  · have : ¬ f < 64 := fun h2 => h ⟨h1, h2⟩
    simp [this]
  · simp [h1]

set_option maxRecDepth 100000 in
set_option maxHeartbeats 2000000 in
theorem told_of (n f : Int) (a : Option Addr) (len cap : Nat) (zs : List Int) (w : World) (hl : len ≤ 100) (hlz : len ≤ zs.length)
    (hcell : ∀ w', Below w.heap.size w w' → ∀ i, i < len → ∃ b off, a = some ⟨b, off, none⟩ ∧ w'.cell? ⟨b, off + i, none⟩ = some (.int .i64 (zs[i]?.getD 0)))
    (hof : ∀ w', Below w.heap.size w w' → Calls Try.prog 21 #[.slice a len cap] w' fun e w'' => e = .returned (.int .u64 (ofN (zs.take len) : Nat)) ∧ w'' = w') :
    Calls Try.prog 6 #[.slice a len cap, .int .i64 n, .int .i64 f] w fun e w' => e = .returned (.bool true) ∧ Below w.heap.size w w' := by
  have HC := Hid.intro' hcell
  have HO := Hid.intro' hof
  clear hcell hof
  have hd100 : decide ((100 : Int) < (len : Int)) = false := by simp; omega
  go_enter Try.func6, Try.ntmps6
  go_wp2_with fail
  refine (fspeaks_any _).mono ?_
  rintro e W1 ⟨rfl, hb1⟩
  have HB1 := Hid.intro' hb1
  have hsz : w.heap.size ≤ W1.heap.size := hb1.size
  clear hb1
  dsimp only
  iterate 32 (try go_step)
  have hzl : zb.length = 64 := by decide
  have n0 := (ArrB.new W1).alloc (.cells (bv zb).toArray 31)
  have n1 := ArrB.new (W1.alloc (.cells (bv zb).toArray 31))
  rw [World.size_alloc] at n1
  have t0 := n0.there
  rw [hzl] at t0
  have m0 := n0.store (cs := zb) rfl
  have m1 : ArrB (((W1.alloc (.cells (bv zb).toArray 31)).alloc (.cells (bv zb).toArray 31)).setCells W1.heap.size 0 (bv zb)) (W1.heap.size + 1) zb := (setCells_other _ _ _ _ _ (by omega)).trans n1
  have t1 := m1.there
  rw [hzl] at t1
  refine wpList_build31 rfl rfl ?_
  refine wpList_build31 rfl rfl ?_
  refine wpList_alloc31 W1.heap.size rfl rfl rfl ?_
  refine wpList_alloc31 (W1.heap.size + 1) rfl rfl (World.size_alloc _ _) ?_
  refine wpList_store31 rfl _ _ rfl W1.heap.size zb rfl rfl t0 hzl ?_
  refine wpList_store31 rfl _ _ rfl (W1.heap.size + 1) zb rfl rfl t1 hzl ?_
  have K0 : ArrB ((((W1.alloc (.cells (bv zb).toArray 31)).alloc (.cells (bv zb).toArray 31)).setCells W1.heap.size 0 (bv zb)).setCells (W1.heap.size + 1) 0 (bv zb)) W1.heap.size zb := (setCells_other _ _ _ _ _ (by omega)).trans m0
  have K1 := m1.store (cs := zb) rfl
  have kB : Below W1.heap.size W1 ((((W1.alloc (.cells (bv zb).toArray 31)).alloc (.cells (bv zb).toArray 31)).setCells W1.heap.size 0 (bv zb)).setCells (W1.heap.size + 1) 0 (bv zb)) :=
    below_setCells _ (by omega) _ _ _ (below_setCells _ (Nat.le_refl _) _ _ _ (((Below.refl _ W1).alloc (Nat.le_refl _) _).alloc (by simp) _))
  have KB := HB1.out.trans (kB.mono HB1.out.size)
  clear n0 n1 t0 t1 m0 m1 kB HB1 hzl
  generalize ((((W1.alloc (.cells (bv zb).toArray 31)).alloc (.cells (bv zb).toArray 31)).setCells W1.heap.size 0 (bv zb)).setCells (W1.heap.size + 1) 0 (bv zb)) = WA at K0 K1 KB ⊢
  generalize W1.heap.size = N at K0 K1 hsz ⊢
  go_wp2
  have HK0 := Hid.intro' K0
  have HK1 := Hid.intro' K1
  have HKB := Hid.intro' KB
  clear K0 K1 KB
  go_loopw [26] (fun i wr => ∃ k : Nat, k ≤ len ∧ i = .int .i64 k ∧ ArrB wr N (wantL (zs.take k)) ∧ ArrB wr (N + 1) zb ∧ Below w.heap.size w wr)
    (fun i _ => len - (intOf i).toNat)
  case atStart => exact ⟨0, Nat.zero_le _, rfl, by rw [List.take_zero, wantL_nil]; exact HK0.out, HK1.out, HKB.out⟩
  case round =>
    obtain ⟨k, hk, rfl, a0, a1, hB⟩ := hrel
    clear HK0 HK1 HKB
    by_cases hlt : k < len
    · obtain ⟨b, off, ha, hc⟩ := HC.out wr hB k hlt
      subst ha
      clear HC HO
      have ht : zs.take (k + 1) = zs.take k ++ [zs[k]?.getD 0] := take_snoc_f zs k (by omega)
      have HT := Hid.intro' ht
      clear ht
      generalize zs[k]?.getD 0 = f0 at hc HT
      by_cases hin : 0 ≤ f0 ∧ f0 < 64
      · obtain ⟨g, rfl⟩ := Int.eq_ofNat_of_zero_le hin.1
        have hg : g < 64 := by omega
        have hgI : (g : Int) < 64 := hin.2
        have hc0 := a0.cell g (by rw [wantL_length]; exact hg)
        have hf0 := a0.frozen g
        have A0 := Hid.intro' (a0.set g true)
        have A1 := Hid.intro' (a1.other (b' := N) (by omega) g (.bool true))
        have HB := Hid.intro' (hB.setCell (p := ⟨N, g, none⟩) hsz (.bool true))
        clear a0 a1 hB hin
        go_wp2
        go_roundw
        case rel => exact ⟨k + 1, by omega, by go_num, by rw [HT.out, ← wantL_in]; exact A0.out, A1.out, HB.out⟩
        case measure => simp [intOf]; omega
      · have A0 := Hid.intro' a0
        have A1 := Hid.intro' a1
        have HB := Hid.intro' hB
        have HIN := Hid.intro' hin
        clear a0 a1 hB hin
        by_cases h1 : 0 ≤ f0
        · have h2 : 64 ≤ f0 := by have := HIN.out; omega
          have e2 : decide (f0 < 64) = false := by simp; omega
          go_wp2
          go_roundw
          case rel => exact ⟨k + 1, by omega, by go_num, by rw [HT.out, ← wantL_out _ _ HIN.out]; exact A0.out, A1.out, HB.out⟩
          case measure => simp [intOf]; omega
        · have e1 : decide (0 ≤ f0) = false := by simp; omega
          go_wp2
          go_roundw
          case rel => exact ⟨k + 1, by omega, by go_num, by rw [HT.out, ← wantL_out _ _ HIN.out]; exact A0.out, A1.out, HB.out⟩
          case measure => simp [intOf]; omega
    · obtain rfl : k = len := by omega
      clear HC
      have HK0 := Hid.intro' a0
      have HK1 := Hid.intro' a1
      have HKB := Hid.intro' hB
      clear a0 a1 hB hd100
      go_wp2
      obtain ⟨wo, rfl⟩ : ∃ wo : World, wo = wr := ⟨_, rfl⟩
      generalize zs.take k = L at HO HK0
      go_loopw [11, 12] (fun c i wr => ∃ j : Nat, j ≤ 64 ∧ i = .int .i64 j ∧ c = .int .i64 (FM.cnt (ofN L) j : Nat) ∧ ArrB wr N (wantL L) ∧ ArrB wr (N + 1) (belowL n j) ∧ Below w.heap.size w wr)
        (fun _ i _ => 64 - (intOf i).toNat)
      case atStart => exact ⟨0, Nat.zero_le _, rfl, rfl, HK0.out, by rw [belowL_zero]; exact HK1.out, HKB.out⟩
      case round =>
        obtain ⟨j, hj, rfl, rfl, a0, a1, hB⟩ := hrel
        clear HK0 HK1 HKB
        by_cases hlt : j < 64
        · have hltI : (j : Int) < 64 := by omega
          have hcnt : ((FM.cnt (ofN L) j : Nat) : Int) ≤ 64 := by have := FM.cnt_le (ofN L) j; omega
          have hc1 := a1.cell j (by rw [belowL_length]; exact hlt)
          have hf1 := a1.frozen j
          have A0 := Hid.intro' (a0.other (b' := N + 1) (by omega) j (.bool (decide ((j : Int) < n))))
          have A1 := Hid.intro' (a1.set j (decide ((j : Int) < n)))
          have HB := Hid.intro' (hB.setCell (p := ⟨N + 1, j, none⟩) (by simp; omega) (.bool (decide ((j : Int) < n))))
          have hc0 : (wr.setCell ⟨N + 1, j, none⟩ (.bool (decide ((j : Int) < n)))).cell? ⟨N, j, none⟩ = some (.bool ((ofN L).testBit j)) := by
            have := A0.out.cell j (by rw [wantL_length]; exact hlt)
            rw [wantL_get _ _ hlt, ← ofN_bit _ _ hlt] at this
            exact this
          have HS := Hid.intro' (cnt_step (ofN L) j)
          clear a0 a1 hB HO
          cases hb : (ofN L).testBit j
          · rw [hb] at hc0
            have HE : Hid (FM.cnt (ofN L) (j + 1) = FM.cnt (ofN L) j) := Hid.intro' (by rw [HS.out, hb]; rfl)
            clear hb HS
            go_wp2
            go_roundw
            case rel => exact ⟨j + 1, by omega, by go_num, by rw [HE.out], A0.out, by rw [← belowL_succ]; exact A1.out, HB.out⟩
            case measure => simp [intOf]; omega
          · rw [hb] at hc0
            have HE : Hid (FM.cnt (ofN L) (j + 1) = FM.cnt (ofN L) j + 1) := Hid.intro' (by rw [HS.out, hb]; rfl)
            clear hb HS
            go_wp2
            go_roundw
            case rel => exact ⟨j + 1, by omega, by go_num, by rw [HE.out]; go_num, A0.out, by rw [← belowL_succ]; exact A1.out, HB.out⟩
            case measure => simp [intOf]; omega
        · obtain rfl : j = 64 := by omega
          have HK0 := Hid.intro' a0
          have HK1 := Hid.intro' a1
          have HKB := Hid.intro' hB
          clear a0 a1 hB
          go_wp2_with fail
          refine (HO.out wr HKB.out).mono ?_
          rintro e W5 ⟨rfl, rfl⟩
          clear HO
          go_wp2_with fail
          have hbl := belowL_length n 64
          have hwl := wantL_length L
          have hs := ofN_lt L
          have r0 : ∀ w', Below W5.heap.size W5 w' → w'.rangeAt N 0 (bv (wantL L)) := fun w' h => (HK0.out.below h HK0.out.lt).range
          have r1 : ∀ w', Below W5.heap.size W5 w' → w'.rangeAt (N + 1) 0 (bv (belowL n 64)) := fun w' h => (HK1.out.below h HK1.out.lt).range
          have q1 := num_of L
          have q2 := num_to n
          refine wp_region_quiet (C := fun w' => Below W5.heap.size W5 w') (by kernel_rfl) (by kernel_rfl) ((Below.refl _ W5).drew) ?_
          simp only []
          refine wpQuiet_step (fun K hK => ?_)
          go_simp
          refine ⟨_, fun _ _ => rfl, hK _ ?_⟩
          clear hK K
          refine wpQuiet_load31 _ N (wantL L) rfl rfl rfl r0 hwl ?_
          refine wpQuiet_step (fun K hK => ?_)
          go_simp
          refine ⟨_, fun w' h => (rnumber_any _ w' (by assumption)).mono fun e w'' hh => ⟨by rw [hh.1, q1], below_class h hh.2⟩, hK _ ?_⟩
          clear hK K
          refine wpQuiet_step (fun K hK => ?_)
          go_simp
          refine ⟨_, fun _ _ => rfl, hK _ ?_⟩
          clear hK K
          refine wpQuiet_step (fun K hK => ?_)
          go_simp
          refine ⟨_, fun _ _ => rfl, hK _ ?_⟩
          clear hK K
          refine wpQuiet_step (fun K hK => ?_)
          go_simp
          refine ⟨_, fun _ _ => rfl, hK _ ?_⟩
          clear hK K
          refine wpQuiet_step (fun K hK => ?_)
          go_simp
          refine ⟨_, fun w' h => (to_any n w').mono fun e w'' hh => ⟨hh.1, by rw [hh.2]; exact h⟩, hK _ ?_⟩
          clear hK K
          refine wpQuiet_load31 _ (N + 1) (belowL n 64) rfl rfl rfl r1 hbl ?_
          refine wpQuiet_step (fun K hK => ?_)
          go_simp
          refine ⟨_, fun w' h => (rnumber_any _ w' (by assumption)).mono fun e w'' hh => ⟨by rw [hh.1, q2], below_class h hh.2⟩, hK _ ?_⟩
          clear hK K
          refine wpQuiet_step (fun K hK => ?_)
          go_simp
          refine ⟨_, fun _ _ => rfl, hK _ ?_⟩
          clear hK K
          refine wpQuiet_step (fun K hK => ?_)
          go_simp
          refine ⟨_, fun _ _ => rfl, hK _ ?_⟩
          clear hK K
          refine wpQuiet_step (fun K hK => ?_)
          go_simp
          refine ⟨_, fun _ _ => rfl, hK _ ?_⟩
          clear hK K
          refine wpQuiet_step (fun K hK => ?_)
          go_simp
          refine ⟨_, fun _ _ => rfl, hK _ ?_⟩
          clear hK K
          refine wpQuiet_step (fun K hK => ?_)
          go_simp
          refine ⟨_, fun w' h => (len_any _ w' hs).mono fun e w'' hh => ⟨hh.1, by rw [hh.2]; exact h⟩, hK _ ?_⟩
          clear hK K
          refine wpQuiet_step (fun K hK => ?_)
          go_simp
          refine ⟨_, fun _ _ => rfl, hK _ ?_⟩
          clear hK K
          refine wpQuiet_step (fun K hK => ?_)
          go_simp
          refine ⟨_, fun _ _ => rfl, hK _ ?_⟩
          clear hK K
          refine wpQuiet_step (fun K hK => ?_)
          go_simp
          refine ⟨_, fun _ _ => rfl, hK _ ?_⟩
          clear hK K
          refine wpQuiet_nil ?_
          intro W6 hb6
          have A6 := Hid.intro' (HK0.out.below hb6 HK0.out.lt)
          have HB6 := Hid.intro' (HKB.out.trans (hb6.mono HKB.out.size))
          have hN6 : N < W6.heap.size := A6.out.lt
          clear HK0 HK1 HKB hb6 r0 r1 q1 q2 hbl
          by_cases hin : 0 ≤ f ∧ f < 64
          · obtain ⟨g, rfl⟩ := Int.eq_ofNat_of_zero_le hin.1
            have hg : g < 64 := by omega
            have hgI : (g : Int) < 64 := hin.2
            have hc : W6.cell? ⟨N, g, none⟩ = some (.bool ((ofN L).testBit g)) := by
              have := A6.out.cell g (by rw [hwl]; exact hg)
              rw [wantL_get _ _ hg, ← ofN_bit _ _ hg] at this
              exact this
            have hh := FM.hasN_nat (ofN L) g hg
            clear hin
            go_wp2_with (go_at_call 25; refine (has_any _ _ _ hs).mono ?_; rintro e w' ⟨rfl, rfl⟩)
            clear hc hh
            refine wp_copy (N := N) (bs := wantL L) hwl (by simp) rfl A6.out ?_
            intro b1 b2 W7 g1 g2 ne a1 a2 hb7
            have c1 := a1.cell g (by rw [hwl]; exact hg)
            have f1 := a1.frozen g
            have s1 := a1.set g true
            have s2 := a2.other (b' := b1) (Ne.symm ne) g (.bool true)
            have c2 := s2.cell g (by rw [hwl]; exact hg)
            have f2 := s2.frozen g
            have R1 := Hid.intro' (s1.other (b' := b2) ne g (.bool false))
            have R2 := Hid.intro' (s2.set g false)
            have HB8 := Hid.intro' ((HB6.out.trans (hb7.mono HB6.out.size)).setCell (p := ⟨b1, g, none⟩) (by have := HB6.out.size; simp; omega) (.bool true) |>.setCell (p := ⟨b2, g, none⟩) (by have := HB6.out.size; simp; omega) (.bool false))
            clear s1 s2 a1 a2 hb7 A6 HB6
            go_wp2
            clear c1 f1 c2 f2
            have q3 := num_with L g hg
            have q4 := num_less L g hg
            have hl3 : ((wantL L).set g true).length = 64 := by rw [List.length_set]; exact hwl
            have hl4 : ((wantL L).set g false).length = 64 := by rw [List.length_set]; exact hwl
            generalize (W7.setCell ⟨b1, g, none⟩ (.bool true)).setCell ⟨b2, g, none⟩ (.bool false) = W8 at R1 R2 HB8 ⊢
            have r3 : ∀ w', Below W8.heap.size W8 w' → w'.rangeAt b1 0 (bv ((wantL L).set g true)) := fun w' h => (R1.out.below h R1.out.lt).range
            have r4 : ∀ w', Below W8.heap.size W8 w' → w'.rangeAt b2 0 (bv ((wantL L).set g false)) := fun w' h => (R2.out.below h R2.out.lt).range
            clear R1 R2
            refine wp_region_quiet (C := fun w' => Below W8.heap.size W8 w') (by kernel_rfl) (by kernel_rfl) ((Below.refl _ W8).drew) ?_
            simp only []
            refine wpQuiet_step (fun K hK => ?_)
            go_simp
            refine ⟨_, fun _ _ => rfl, hK _ ?_⟩
            clear hK K
            refine wpQuiet_step (fun K hK => ?_)
            go_simp
            refine ⟨_, fun _ _ => rfl, hK _ ?_⟩
            clear hK K
            refine wpQuiet_step (fun K hK => ?_)
            go_simp
            refine ⟨_, fun w' h => (with_any _ _ w' hs).mono fun e w'' hh => ⟨hh.1, by rw [hh.2]; exact h⟩, hK _ ?_⟩
            clear hK K
            refine wpQuiet_load31 _ b1 ((wantL L).set g true) rfl rfl rfl r3 hl3 ?_
            refine wpQuiet_step (fun K hK => ?_)
            go_simp
            refine ⟨_, fun w' h => (rnumber_any _ w' (by assumption)).mono fun e w'' hh => ⟨by rw [hh.1, q3], below_class h hh.2⟩, hK _ ?_⟩
            clear hK K
            refine wpQuiet_step (fun K hK => ?_)
            go_simp
            refine ⟨_, fun _ _ => rfl, hK _ ?_⟩
            clear hK K
            refine wpQuiet_step (fun K hK => ?_)
            go_simp
            refine ⟨_, fun _ _ => rfl, hK _ ?_⟩
            clear hK K
            refine wpQuiet_step (fun K hK => ?_)
            go_simp
            refine ⟨_, fun _ _ => rfl, hK _ ?_⟩
            clear hK K
            refine wpQuiet_step (fun K hK => ?_)
            go_simp
            refine ⟨_, fun _ _ => rfl, hK _ ?_⟩
            clear hK K
            refine wpQuiet_step (fun K hK => ?_)
            go_simp
            refine ⟨_, fun w' h => (less_any _ _ w' hs).mono fun e w'' hh => ⟨hh.1, by rw [hh.2]; exact h⟩, hK _ ?_⟩
            clear hK K
            refine wpQuiet_load31 _ b2 ((wantL L).set g false) rfl rfl rfl r4 hl4 ?_
            refine wpQuiet_step (fun K hK => ?_)
            go_simp
            refine ⟨_, fun w' h => (rnumber_any _ w' (by assumption)).mono fun e w'' hh => ⟨by rw [hh.1, q4], below_class h hh.2⟩, hK _ ?_⟩
            clear hK K
            refine wpQuiet_step (fun K hK => ?_)
            go_simp
            refine ⟨_, fun _ _ => rfl, hK _ ?_⟩
            clear hK K
            refine wpQuiet_step (fun K hK => ?_)
            go_simp
            refine ⟨_, fun _ _ => rfl, hK _ ?_⟩
            clear hK K
            refine wpQuiet_step (fun K hK => ?_)
            go_simp
            refine ⟨_, fun _ _ => rfl, hK _ ?_⟩
            clear hK K
            refine wpQuiet_nil ?_
            intro W9 hb9
            have HB9 := Hid.intro' (HB8.out.trans (hb9.mono HB8.out.size))
            clear hb9 r3 r4 HB8
            go_wp2
            go_ret
            exact ⟨rfl, HB9.out⟩
          · have hh := has_out (ofN L) f hin
            have HIN := Hid.intro' hin
            have q3 := with_out L f hin
            have q4 := less_out L f hin
            have Q3 := Hid.intro' q3
            have Q4 := Hid.intro' q4
            have key : decide (0 ≤ f) = false ∨ (decide (0 ≤ f) = true ∧ decide (f < 64) = false) := by
              by_cases h1 : 0 ≤ f
              · right
                refine ⟨by simpa using h1, ?_⟩
                have : ¬ f < 64 := fun h2 => hin ⟨h1, h2⟩
                simpa using this
              · left; simpa using h1
            clear hin q3 q4
            rcases key with k1 | ⟨k1, k2⟩
            all_goals
              go_wp2_with (go_at_call 25; refine (has_any _ _ _ hs).mono ?_; rintro e w' ⟨rfl, rfl⟩)
              clear hh
              refine wp_copy (N := N) (bs := wantL L) hwl (by simp) rfl A6.out ?_
              intro b1 b2 W8 g1 g2 ne a1 a2 hb7
              have R1 := Hid.intro' a1
              have R2 := Hid.intro' a2
              have HB8 := Hid.intro' (HB6.out.trans (hb7.mono HB6.out.size))
              clear a1 a2 hb7 A6 HB6
              go_wp2
              have r3 : ∀ w', Below W8.heap.size W8 w' → w'.rangeAt b1 0 (bv (wantL L)) := fun w' h => (R1.out.below h R1.out.lt).range
              have r4 : ∀ w', Below W8.heap.size W8 w' → w'.rangeAt b2 0 (bv (wantL L)) := fun w' h => (R2.out.below h R2.out.lt).range
              clear R1 R2
              refine wp_region_quiet (C := fun w' => Below W8.heap.size W8 w') (by kernel_rfl) (by kernel_rfl) ((Below.refl _ W8).drew) ?_
              simp only []
              refine wpQuiet_step (fun K hK => ?_)
              go_simp
              refine ⟨_, fun _ _ => rfl, hK _ ?_⟩
              clear hK K
              refine wpQuiet_step (fun K hK => ?_)
              go_simp
              refine ⟨_, fun _ _ => rfl, hK _ ?_⟩
              clear hK K
              refine wpQuiet_step (fun K hK => ?_)
              go_simp
              refine ⟨_, fun w' h => (with_any _ _ w' hs).mono fun e w'' hh => ⟨hh.1, by rw [hh.2]; exact h⟩, hK _ ?_⟩
              clear hK K
              refine wpQuiet_load31 _ b1 (wantL L) rfl rfl rfl r3 hwl ?_
              refine wpQuiet_step (fun K hK => ?_)
              go_simp
              refine ⟨_, fun w' h => (rnumber_any _ w' (by assumption)).mono fun e w'' hh => ⟨by rw [hh.1, Q3.out], below_class h hh.2⟩, hK _ ?_⟩
              clear hK K
              refine wpQuiet_step (fun K hK => ?_)
              go_simp
              refine ⟨_, fun _ _ => rfl, hK _ ?_⟩
              clear hK K
              refine wpQuiet_step (fun K hK => ?_)
              go_simp
              refine ⟨_, fun _ _ => rfl, hK _ ?_⟩
              clear hK K
              refine wpQuiet_step (fun K hK => ?_)
              go_simp
              refine ⟨_, fun _ _ => rfl, hK _ ?_⟩
              clear hK K
              refine wpQuiet_step (fun K hK => ?_)
              go_simp
              refine ⟨_, fun _ _ => rfl, hK _ ?_⟩
              clear hK K
              refine wpQuiet_step (fun K hK => ?_)
              go_simp
              refine ⟨_, fun w' h => (less_any _ _ w' hs).mono fun e w'' hh => ⟨hh.1, by rw [hh.2]; exact h⟩, hK _ ?_⟩
              clear hK K
              refine wpQuiet_load31 _ b2 (wantL L) rfl rfl rfl r4 hwl ?_
              refine wpQuiet_step (fun K hK => ?_)
              go_simp
              refine ⟨_, fun w' h => (rnumber_any _ w' (by assumption)).mono fun e w'' hh => ⟨by rw [hh.1, Q4.out], below_class h hh.2⟩, hK _ ?_⟩
              clear hK K
              refine wpQuiet_step (fun K hK => ?_)
              go_simp
              refine ⟨_, fun _ _ => rfl, hK _ ?_⟩
              clear hK K
              refine wpQuiet_step (fun K hK => ?_)
              go_simp
              refine ⟨_, fun _ _ => rfl, hK _ ?_⟩
              clear hK K
              refine wpQuiet_step (fun K hK => ?_)
              go_simp
              refine ⟨_, fun _ _ => rfl, hK _ ?_⟩
              clear hK K
              refine wpQuiet_nil ?_
              intro W9 hb9
              have HB9 := Hid.intro' (HB8.out.trans (hb9.mono HB8.out.size))
              clear hb9 r3 r4 HB8
              go_wp2
              go_ret
              exact ⟨rfl, HB9.out⟩

end Go.Proofs.Ytklekpkchpnmiaa
