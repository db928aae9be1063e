/- Several texts in one, each with its own head. -/
import Derived.Test.YtjpkekmccbpclajPk5
import Derived.Test.YtjpkekmccbpclajPk2
import Derived.Shelf.Abstract
import Derived.BigQuiet
import Derived.Deep.DeepCutAuto
import Derived.Deep.CutBlock
import Derived.Test.YtjpkekmccbpclajPk4
/- The parts of the program's look at a tick. -/
namespace Go.Proofs.Ytjpkekmccbpclaj
open Go.RowKit Go.Shelf Go.ChangeMaps Go.MapKept

theorem mkMap (W : World) (n : Int) : (Instr.makeMap 46 (some (.int .i64 n))).run Try.prog W = .ok (.map (some W.heap.size)) (W.alloc (.map #[] 0)) := by
  have u := Try.underlying46
  simp [Instr.makeMap, run_underlying u, go_sem]

set_option maxHeartbeats 1000000 in
theorem ages_any (D : Nat → Prop) (v : Value) (L : List Ca) (W : World) (h : RC D W v L) (hl : L.length ≤ 200) :
    Calls Try.prog 13 #[v] W fun e w' => ∃ m, e = .returned (.map (some m)) ∧ W.heap.size ≤ m ∧ MA w' m (SF.agk L L.length) ∧ Below W.heap.size W w' := by
  obtain ⟨av, kv, rfl, _⟩ := h.form
  have HC := Hid.intro' h
  obtain ⟨n, hn⟩ : ∃ n, L.length = n := ⟨_, rfl⟩
  rw [hn] at HC hl ⊢
  have HN := Hid.intro' hn
  have HM0 := Hid.intro' (MA.new W)
  have HB0 : Hid (Below W.heap.size W (W.alloc (.map #[] 0))) := (Below.refl _ W).alloc (Nat.le_refl _) _
  have hmk : ∀ W : World, (Instr.makeMap 46 (some (.int .i64 (n : Int)))).run Try.prog W = .ok (.map (some W.heap.size)) (W.alloc (.map #[] 0)) := fun W => mkMap W n
  clear h hn
  go_enter Try.func13, Try.ntmps13
  go_wp2_with fail
  generalize W.alloc (.map #[] 0) = V at HM0 HB0 ⊢
  go_loopw [11] (fun iv wr => ∃ i : Nat, i ≤ n ∧ iv = .int .i64 (i : Int) ∧ Hid (MA wr W.heap.size (SF.agk L i)) ∧ Hid (Below W.heap.size W wr)) (fun iv _ => n - (intOf iv).toNat)
  case atStart => exact ⟨0, Nat.zero_le _, rfl, HM0, HB0⟩
  case round =>
    clear HM0 HB0
    obtain ⟨i, hi, rfl, HM, HB⟩ := hrel
    by_cases hlt : i < n
    · have hz : (i : Int) < (n : Int) := by omega
      have hL : i < L.length := by rw [HN.out]; exact hlt
      obtain ⟨y, hy⟩ : ∃ y, L[i]? = some y := ⟨_, List.getElem?_eq_getElem hL⟩
      obtain ⟨g, o, ha, hg, c0, c1, c2, c3⟩ := (HC.out.below' HB.out).at hy
      subst ha
      have hix : ∀ W : World, (Instr.indexAt 25 (.slice (some ⟨g, o, none⟩) n kv) (.int .i64 (i : Int))).run Try.prog W = .ok (.pointer (some ⟨g, o + i * 4, none⟩)) W := fun W => ixCa W hlt
      have hbl := (Below.refl wr.heap.size wr).alloc (Nat.le_refl _) (.cells #[.int .i64 y.fl, .int .i64 y.ca, .int .i64 y.ag, .bool y.up] 43)
      obtain ⟨ob, hrun, hma, hoth⟩ := (HM.out.below' hbl).lay y
      have HMA : Hid (MA (setBlock (wr.alloc (.cells #[.int .i64 y.fl, .int .i64 y.ca, .int .i64 y.ag, .bool y.up] 43)) W.heap.size ob) W.heap.size (SF.agk L (i + 1))) := by rw [SF.agk_succ hy]; exact hma
      have HB2 : Hid (Below W.heap.size W (setBlock (wr.alloc (.cells #[.int .i64 y.fl, .int .i64 y.ca, .int .i64 y.ag, .bool y.up] 43)) W.heap.size ob)) := by
        have h1 := below_class HB.out hbl
        exact ⟨h1.os, h1.tape, h1.output, by have := h1.size; simpa [setBlock] using this, fun k hk => (hoth k (by omega)).trans (h1.block k hk)⟩
      obtain ⟨V2, hV2⟩ : ∃ V2, setBlock (wr.alloc (.cells #[.int .i64 y.fl, .int .i64 y.ca, .int .i64 y.ag, .bool y.up] 43)) W.heap.size ob = V2 := ⟨_, rfl⟩
      rw [hV2] at hrun HMA HB2
      unfold kyv at hrun
      clear hV2 hma hoth hbl hy hL hg
      go_wp2
      go_roundw
      case rel => exact ⟨i + 1, by omega, by go_num, HMA, HB2⟩
      case measure => simp [intOf]; omega
    · have hz : ¬ (i : Int) < (n : Int) := by omega
      have e : i = n := by omega
      have HM2 : Hid (MA wr W.heap.size (SF.agk L n)) := e ▸ HM
      clear e HM
      go_wp2
      go_ret
      exact ⟨_, rfl, Nat.le_refl _, HM2.out, HB.out⟩

theorem smoves_any (c : Cr) (w : World) :
    Calls Try.prog 27 #[.agg #[.int .i64 c.fl, .int .i64 c.tg, .int .i64 c.ti, .int .i64 c.d.ph, .int .i64 c.d.le, .int .i64 c.d.ru, .bool c.d.he, .bool c.fa]] w fun e w' => e = .returned (.bool (c.ti != 0)) ∧ Below w.heap.size w w' := by
  have hb := (Below.refl w.heap.size w).alloc (Nat.le_refl _) (.cells #[.int .i64 c.fl, .int .i64 c.tg, .int .i64 c.ti, .int .i64 c.d.ph, .int .i64 c.d.le, .int .i64 c.d.ru, .bool c.d.he, .bool c.fa] 36)
  have HB := Hid.intro' hb
  clear hb
  go_enter Try.func27, Try.ntmps27
  go_wp2
  go_ret
  exact ⟨rfl, HB.out⟩
theorem smoves_t (c : Cr) (h : c.ti ≠ 0) (w : World) : Calls Try.prog 27 #[.agg #[.int .i64 c.fl, .int .i64 c.tg, .int .i64 c.ti, .int .i64 c.d.ph, .int .i64 c.d.le, .int .i64 c.d.ru, .bool c.d.he, .bool c.fa]] w fun e w' => e = .returned (.bool true) ∧ Below w.heap.size w w' := by
  have := smoves_any c w
  rwa [show (c.ti != 0) = true by simpa using h] at this
theorem smoves_f (c : Cr) (h : c.ti = 0) (w : World) : Calls Try.prog 27 #[.agg #[.int .i64 c.fl, .int .i64 c.tg, .int .i64 c.ti, .int .i64 c.d.ph, .int .i64 c.d.le, .int .i64 c.d.ru, .bool c.d.he, .bool c.fa]] w fun e w' => e = .returned (.bool false) ∧ Below w.heap.size w w' := by
  have := smoves_any c w
  rwa [show (c.ti != 0) = false by simpa using h] at this

/-- a block that holds a key -/
def YB (W : World) (b : Nat) (y : Ca) : Prop := W.heap[b]? = some (.cells #[.int .i64 y.fl, .int .i64 y.ca, .bool y.up] 60 (0, 0))
section
variable {W W' : World} {b : Nat} {y : Ca}
theorem YB.lt (H : YB W b y) : b < W.heap.size := (Array.getElem?_eq_some_iff.1 H).1
theorem YB.below' (H : YB W b y) (hb : Below W.heap.size W W') : YB W' b y := (hb.block b H.lt).trans H
theorem YB.new (W : World) (y : Ca) : YB (W.alloc (.cells #[.int .i64 y.fl, .int .i64 y.ca, .bool y.up] 60)) W.heap.size y := World.alloc_heap_new W _
theorem YB.c0 (H : YB W b y) : W.cell? ⟨b, 0, none⟩ = some (.int .i64 y.fl) := by simp [World.cell?, show W.heap[b]? = _ from H]
theorem YB.c1 (H : YB W b y) : W.cell? ⟨b, 1, none⟩ = some (.int .i64 y.ca) := by simp [World.cell?, show W.heap[b]? = _ from H]
theorem YB.c2 (H : YB W b y) : W.cell? ⟨b, 2, none⟩ = some (.bool y.up) := by simp [World.cell?, show W.heap[b]? = _ from H]
end

set_option maxHeartbeats 1000000 in
theorem openThere_any (x : Cr) (b : Nat) (y : Ca) (w : World) (hy : YB w b y) :
    Calls Try.prog 36 #[.agg #[.int .i64 x.fl, .int .i64 x.tg, .int .i64 x.ti, .int .i64 x.d.ph, .int .i64 x.d.le, .int .i64 x.d.ru, .bool x.d.he, .bool x.fa], .pointer (some ⟨b, 0, none⟩)] w fun e w' => e = .returned (.bool (SF.ot y x)) ∧ Below w.heap.size w w' := by
  have hb0 := (Below.refl w.heap.size w).alloc (Nat.le_refl _) (.cells #[.int .i64 x.fl, .int .i64 x.tg, .int .i64 x.ti, .int .i64 x.d.ph, .int .i64 x.d.le, .int .i64 x.d.ru, .bool x.d.he, .bool x.fa] 36)
  have HK := Hid.intro' (CB.new w x)
  have HY := Hid.intro' (hy.below' hb0)
  have HB := Hid.intro' hb0
  clear hy hb0
  obtain ⟨r, HR⟩ : ∃ r, Hid (SF.ot y x = r) := ⟨_, Hid.intro' rfl⟩
  rw [HR.out]
  go_enter Try.func36, Try.ntmps36
  go_wp2_with (refine wpList_loadC rfl _ rfl w.heap.size rfl HK.out ?_)
  by_cases q1 : x.ti = 0
  · refine (smoves_f x q1 _).mono ?_
    rintro e W1 ⟨rfl, hb⟩
    have c0 := (HK.out.below' hb).c0
    have c3 := (HK.out.below' hb).c3
    have k0 := (HY.out.below' hb).c0
    have HB1 := Hid.intro' (below_class HB.out hb)
    clear HK HY HB hb
    by_cases q2 : x.fl = y.fl
    · have d2 : (x.fl == y.fl) = true := by simpa using q2
      have HE : Hid ((x.d.ph == 2) = r) := by rw [← HR.out]; show _ = SF.ot y x; unfold SF.ot; rw [Bool.eq_iff_iff]; simp [q1, q2]
      clear q1 q2 HR
      go_wp2
      go_ret
      exact ⟨ret_boo HE.out, HB1.out⟩
    · have d2 : (x.fl == y.fl) = false := by simpa using q2
      have HE : Hid (false = r) := by rw [← HR.out]; show _ = SF.ot y x; unfold SF.ot; simp [q2]
      clear q1 q2 HR
      go_wp2
      go_ret
      exact ⟨ret_boo HE.out, HB1.out⟩
  · refine (smoves_t x q1 _).mono ?_
    rintro e W1 ⟨rfl, hb⟩
    have HE : Hid (false = r) := by rw [← HR.out]; show _ = SF.ot y x; unfold SF.ot; simp [q1]
    have HB1 := Hid.intro' (below_class HB.out hb)
    clear HK HY HB hb q1 HR
    go_wp2
    go_ret
    exact ⟨ret_boo HE.out, HB1.out⟩

/-- the first place at which a predicate holds, or -1 -/
def IxC (p : Cr → Bool) (L : List Cr) (i : Int) : Prop :=
  (i = -1 ∧ ∀ (j : Nat) x, L[j]? = some x → p x = false) ∨ ∃ (k : Nat) (x : Cr), L[k]? = some x ∧ i = (k : Int) ∧ p x = true
theorem IxC.any {p : Cr → Bool} {L : List Cr} {i : Int} (h : IxC p L i) : decide (0 ≤ i) = L.any p := by
  rcases h with ⟨rfl, h⟩ | ⟨k, x, hx, rfl, hp⟩
  · have : L.any p = false := by
      rw [List.any_eq_false]
      intro x hx
      obtain ⟨j, hj⟩ := List.getElem?_of_mem hx
      rw [h j x hj]; simp
    rw [this]; rfl
  · have : L.any p = true := List.any_eq_true.2 ⟨x, List.mem_of_getElem? hx, hp⟩
    rw [this]; simp
set_option maxHeartbeats 1000000 in
theorem indexC_any (D : Nat → Prop) (b : Nat) (y : Ca) (v : Value) (L : List Cr) (w : World) (hR : RK D w v L) (hL : L.length ≤ 20) (hy : YB w b y) :
    Calls Try.prog 44 #[v, .func (.func 36) #[] #[.pointer (some ⟨b, 0, none⟩)]] w fun e w' => ∃ i : Int, e = .returned (.int .i64 i) ∧ Below w.heap.size w w' ∧ IxC (SF.ot y) L i := by
  obtain ⟨av, kv, rfl, _⟩ := hR.form
  have eg : ∀ args w, (callFunc 36 args).run Try.prog w = .ok (.enter 36 args) w := fun args w => by go_simp
  obtain ⟨n, hn⟩ : ∃ n, L.length = n := ⟨_, rfl⟩
  have HC := Hid.intro' hR
  have HY := Hid.intro' hy
  rw [hn] at HC hL ⊢
  have HN := Hid.intro' hn
  clear hn hR hy
  go_enter Try.func44, Try.ntmps44
  go_wp2_with fail
  go_loopw [5, 8] (fun _ i wr => ∃ k : Nat, k ≤ n ∧ i = .int .i64 k ∧ Hid (Below w.heap.size w wr) ∧ Hid (∀ (j : Nat) y', j < k → L[j]? = some y' → SF.ot y y' = false)) (fun _ i _ => n - (intOf i).toNat)
  case atStart => exact ⟨0, Nat.zero_le _, rfl, Below.refl _ _, fun j _ h => absurd h (by omega)⟩
  case round =>
    obtain ⟨k, hk, rfl, HB, HNO⟩ := hrel
    by_cases hlt2 : k < n
    · have hkz : (k : Int) < (n : Int) := by omega
      have hkL : k < L.length := by have := HN.out; omega
      obtain ⟨x, hx⟩ : ∃ y, L[k]? = some y := ⟨_, List.getElem?_eq_getElem hkL⟩
      obtain ⟨g, o, ha, hg, hr⟩ := (HC.out.below' HB.out).at hx
      subst ha
      have HRR := Hid.intro' hr
      have hix : ∀ W : World, (Instr.indexAt 24 (.slice (some ⟨g, o, none⟩) n kv) (.int .i64 (k : Int))).run Try.prog W = .ok (.pointer (some ⟨g, o + k * 8, none⟩)) W := fun W => ixK W hlt2
      have hc := openThere_any x b y wr (HY.out.below' HB.out)
      have HX := Hid.intro' hx
      clear hkL hx hr
      cases hq : SF.ot y x with
      | true =>
        rw [hq] at hc
        go_wp2_with (first | (refine wpList_loadK rfl _ rfl g (o + k * 8) rfl HRR.out ?_) | (go_at_fn 36; refine hc.mono ?_; rintro e w' ⟨rfl, hb'⟩))
        go_ret
        exact ⟨k, rfl, below_class HB.out hb', .inr ⟨k, x, HX.out, rfl, hq⟩⟩
      | false =>
        rw [hq] at hc
        go_wp2_with (first | (refine wpList_loadK rfl _ rfl g (o + k * 8) rfl HRR.out ?_) | (go_at_fn 36; refine hc.mono ?_; rintro e w' ⟨rfl, hb'⟩))
        go_roundw
        case rel =>
          refine ⟨k + 1, by omega, by go_num, below_class HB.out hb', (show Hid _ from fun j z hj hz => ?_)⟩
          by_cases e : j = k
          · subst e
            rw [HX.out] at hz
            cases hz
            exact hq
          · exact HNO.out j z (by omega) hz
        case measure => simp [intOf]; omega
    · have hkn : k = n := by omega
      have HNO2 : Hid (∀ (j : Nat) y', j < n → L[j]? = some y' → SF.ot y y' = false) := hkn ▸ HNO
      have hkz : ¬ (k : Int) < (n : Int) := by omega
      clear hkn HNO
      go_wp2
      go_ret
      refine ⟨-1, rfl, HB.out, .inl ⟨rfl, fun j x hx => HNO2.out j x ?_ hx⟩⟩
      have := (List.getElem?_eq_some_iff.1 hx).1
      have := HN.out
      omega
set_option maxHeartbeats 400000 in
theorem containsC_any (D : Nat → Prop) (b : Nat) (y : Ca) (v : Value) (L : List Cr) (w : World) (hR : RK D w v L) (hL : L.length ≤ 20) (hy : YB w b y) :
    Calls Try.prog 37 #[v, .func (.func 36) #[] #[.pointer (some ⟨b, 0, none⟩)]] w fun e w' => e = .returned (.bool (L.any (SF.ot y))) ∧ Below w.heap.size w w' := by
  have HC := Hid.intro' (indexC_any D b y v L w hR hL hy)
  clear hR hL hy
  go_enter Try.func37, Try.ntmps37
  go_wp2_with fail
  refine HC.out.mono ?_
  rintro e w' ⟨i, rfl, hb, hi⟩
  have HI := Hid.intro' hi
  clear hi HC
  go_wp2
  go_ret
  exact ⟨ret_boo HI.out.any, hb⟩

set_option maxHeartbeats 1000000 in
theorem served_any (D : Nat → Prop) (c : Ca) (v : Value) (a : List Cr) (w : World) (hR : RK D w v a) (hL : a.length ≤ 20) :
    Calls Try.prog 26 #[v, kyv c] w fun e w' => e = .returned (.bool (SF.op c a a.length)) ∧ Below w.heap.size w w' := by
  unfold kyv
  have hb0 := (Below.refl w.heap.size w).alloc (Nat.le_refl _) (.cells #[.int .i64 c.fl, .int .i64 c.ca, .bool c.up] 60)
  have HY := Hid.intro' (YB.new w c)
  have HC := Hid.intro' (hR.below' hb0)
  have HB := Hid.intro' hb0
  obtain ⟨r, HR⟩ : ∃ r, Hid (SF.op c a a.length = r) := ⟨_, Hid.intro' rfl⟩
  rw [HR.out]
  clear hR hb0
  by_cases q1 : c.ca = -1
  · have HE : Hid (a.any (SF.ot c) = r) := by rw [← HR.out]; show _ = SF.op c a a.length; rw [SF.op_hall q1 (Nat.le_refl _), List.take_length]
    have d1 : (c.ca == -1) = true := by simpa using q1
    have HCC := Hid.intro' (containsC_any D w.heap.size c v a _ HC.out hL HY.out)
    clear q1 HR HC HY
    go_enter Try.func26, Try.ntmps26
    go_wp2_with fail
    refine HCC.out.mono ?_
    rintro e W1 ⟨rfl, hb⟩
    have HB1 := Hid.intro' (below_class HB.out hb)
    clear HCC hb HB
    go_wp2
    go_ret
    exact ⟨ret_boo HE.out, HB1.out⟩
  · have d1 : (c.ca == -1) = false := by simpa using q1
    obtain ⟨av, kv, rfl, _⟩ := HC.out.form
    obtain ⟨n, hn⟩ : ∃ n, a.length = n := ⟨_, rfl⟩
    have HN := Hid.intro' hn
    rw [hn] at HC hL ⊢
    clear hn
    by_cases q2 : 0 ≤ c.ca
    · by_cases q3 : c.ca < (n : Int)
      · obtain ⟨j, hj⟩ : ∃ j : Nat, c.ca = j := ⟨c.ca.toNat, by omega⟩
        have hjn : j < n := by omega
        have hjL : j < a.length := by rw [HN.out]; exact hjn
        obtain ⟨x, hx⟩ : ∃ y, a[j]? = some y := ⟨_, List.getElem?_eq_getElem hjL⟩
        have HE : Hid (SF.ot c x = r) := by rw [← HR.out]; exact (SF.op_car hj hx (Nat.le_refl _) hjL).symm
        have hix : ∀ W : World, ∀ g o, (Instr.indexAt 24 (.slice (some ⟨g, o, none⟩) n kv) (.int .i64 c.ca)).run Try.prog W = .ok (.pointer (some ⟨g, o + j * 8, none⟩)) W := fun W g o => by rw [hj]; exact ixK W hjn
        obtain ⟨g, o, ha, hg, hr⟩ := HC.out.at hx
        subst ha
        have hix2 := fun W => hix W g o
        have m0 : (w.alloc (.cells #[.int .i64 c.fl, .int .i64 c.ca, .bool c.up] 60)).cell? ⟨g, o + j * 8, none⟩ = some (.int .i64 x.fl) := hr 0 _ rfl
        have m1 := hr 1 _ rfl
        have m2 := hr 2 _ rfl
        have m3 := hr 3 _ rfl
        have m4 := hr 4 _ rfl
        have m5 := hr 5 _ rfl
        have m6 := hr 6 _ rfl
        have m7 := hr 7 _ rfl
        have HCC := Hid.intro' (openThere_any x w.heap.size c _ HY.out)
        clear q1 HR HC HY hix hj hr hx hjL
        go_enter Try.func26, Try.ntmps26
        go_wp2_with fail
        refine HCC.out.mono ?_
        rintro e W1 ⟨rfl, hb⟩
        have HB1 := Hid.intro' (below_class HB.out hb)
        clear HCC hb HB
        go_wp2
        go_ret
        exact ⟨ret_boo HE.out, HB1.out⟩
      · have HE : Hid (false = r) := by rw [← HR.out]; exact (SF.op_none q1 (Nat.le_refl _) (by have := HN.out; omega)).symm
        clear q1 HR HC HY
        go_enter Try.func26, Try.ntmps26
        go_wp2
        go_ret
        exact ⟨ret_boo HE.out, HB.out⟩
    · have HE : Hid (false = r) := by rw [← HR.out]; exact (SF.op_none q1 (Nat.le_refl _) (by omega)).symm
      clear q1 HR HC HY
      go_enter Try.func26, Try.ntmps26
      go_wp2
      go_ret
      exact ⟨ret_boo HE.out, HB.out⟩

end Go.Proofs.Ytjpkekmccbpclaj

/- Calls that vanish, calls of a wrong age, cars that go away or leap, as the program tells them. -/
namespace Go.Proofs.Ytjpkekmccbpclaj
open Go.RowKit Go.Shelf Go.ChangeMaps Go.MapKept

theorem any_false {p : Ca → Bool} {E : List Ca} (h : ∀ c ∈ E, p c = false) : false = E.any p := by
  symm
  rw [List.any_eq_false]
  intro x hx
  rw [h x hx]; simp
theorem any_true {p : Ca → Bool} {E : List Ca} {c : Ca} (h : c ∈ E) (hp : p c = true) : true = E.any p := (List.any_eq_true.2 ⟨c, h, hp⟩).symm

set_option maxHeartbeats 2000000 in
theorem vanishes_any (D : Nat → Prop) (v : Value) (a : List Cr) (E1 E2 : List Ca) (m1 m2 : Nat) (W : World) (hR : RK D W v a) (hL : a.length ≤ 20) (h1 : MA W m1 E1) (h2 : MA W m2 E2) :
    Calls Try.prog 15 #[v, .map (some m1), .map (some m2)] W fun e w' => e = .returned (.bool (E1.any (SF.vne a E2))) ∧ Below W.heap.size W w' := by
  obtain ⟨r, HR⟩ : ∃ r, Hid (E1.any (SF.vne a E2) = r) := ⟨_, Hid.intro' rfl⟩
  rw [HR.out]
  obtain ⟨hrg, hit⟩ := h1.range (SF.vne a E2)
  have hbl := (Below.refl W.heap.size W).alloc (Nat.le_refl _) (.mapIter (some m1) h1.choose_spec.choose #[] h1.choose_spec.choose)
  have HI0 := Hid.intro' hit
  have HB0 := Hid.intro' hbl
  generalize W.alloc (.mapIter (some m1) h1.choose_spec.choose #[] h1.choose_spec.choose) = V at hrg HI0 HB0
  have HC := Hid.intro' hR
  have HM2 := Hid.intro' h2
  clear hit hbl h1 h2 hR
  go_enter Try.func15, Try.ntmps15
  go_wp2_with fail
  clear hrg
  go_loopw [12] (fun _ wr => Hid (IT wr m1 W.heap.size E1 (SF.vne a E2)) ∧ Hid (Below W.heap.size W wr)) (fun _ wr => lft wr m1 W.heap.size)
  case atStart => exact ⟨HI0, HB0⟩
  case round =>
    clear HI0 HB0
    obtain ⟨HI, HB⟩ := hrel
    rcases HI.out.next 0 W.heap.size (Nat.le_refl _) with ⟨hall, hnx⟩ | ⟨c, hc, V1, hnx, hsz, hbv, hlf, hen, hno, hoth⟩
    · have HE : Hid (false = r) := (any_false hall).trans HR.out
      clear hall HR
      go_wp2
      go_ret
      exact ⟨ret_boo HE.out, HB.out⟩
    · have HB1 := Hid.intro' (HB.out.trans hbv)
      have HLF := Hid.intro' hlf
      have HNO := Hid.intro' hno
      have hb2 := (Below.refl V1.heap.size V1).alloc (Nat.le_refl _) (.cells #[.int .i64 c.fl, .int .i64 c.ca, .bool c.up] 60)
      have HB2 := Hid.intro' hb2
      have hlk := ((HM2.out.below' HB1.out).below' hb2).look c
      have HCT := Hid.intro' hc
      unfold kyv at hnx hen hlk
      clear hlf hno hoth hbv hsz HI HB hc
      cases hq : SF.lk c E2 with
      | some x =>
        rw [hq] at hlk
        simp only [Option.getD_some, Option.isSome_some] at hlk
        have HP : Hid (SF.vne a E2 c = false) := by show _ = _; unfold SF.vne; rw [hq]; rfl
        clear hq hb2
        go_wp2
        go_roundw
        case rel => exact ⟨(HNO.out HP.out).below' HB2.out, below_class HB1.out HB2.out⟩
        case measure => rw [lft_below (HNO.out HP.out) HB2.out]; exact HLF.out
      | none =>
        rw [hq] at hlk
        simp only [Option.getD_none, Option.isSome_none] at hlk
        have HV : Hid (SF.vne a E2 c = !SF.op c a a.length) := by show _ = _; unfold SF.vne; rw [hq]; rfl
        have hsv := served_any D c v a _ ((HC.out.below' HB1.out).below' hb2) hL
        unfold kyv at hsv
        have HSV := Hid.intro' hsv
        clear hq hb2 hsv
        go_wp2_with fail
        cases ho : SF.op c a a.length
        · rw [ho] at HSV
          have HE : Hid (true = r) := (any_true HCT.out (by rw [HV.out, ho]; rfl)).trans HR.out
          refine HSV.out.mono ?_
          rintro e W3 ⟨rfl, hb3⟩
          have HB3 := Hid.intro' (below_class (below_class HB1.out HB2.out) hb3)
          clear hb3 HSV ho
          go_wp2
          go_ret
          exact ⟨ret_boo HE.out, HB3.out⟩
        · rw [ho] at HSV
          have HP : Hid (SF.vne a E2 c = false) := by show _ = _; rw [HV.out, ho]; rfl
          refine HSV.out.mono ?_
          rintro e W3 ⟨rfl, hb3⟩
          have HB3 := Hid.intro' (below_class HB2.out hb3)
          clear hb3 HSV ho HV
          go_wp2
          go_roundw
          case rel => exact ⟨(HNO.out HP.out).below' HB3.out, below_class HB1.out HB3.out⟩
          case measure => rw [lft_below (HNO.out HP.out) HB3.out]; exact HLF.out

set_option maxHeartbeats 2000000 in
theorem isYoung_any (E1 E2 : List Ca) (m1 m2 : Nat) (W : World) (h1 : MA W m1 E1) (h2 : MA W m2 E2) :
    Calls Try.prog 17 #[.map (some m1), .map (some m2)] W fun e w' => e = .returned (.bool (E2.any (SF.yge E1))) ∧ Below W.heap.size W w' := by
  obtain ⟨r, HR⟩ : ∃ r, Hid (E2.any (SF.yge E1) = r) := ⟨_, Hid.intro' rfl⟩
  rw [HR.out]
  obtain ⟨hrg, hit⟩ := h2.range (SF.yge E1)
  have hbl := (Below.refl W.heap.size W).alloc (Nat.le_refl _) (.mapIter (some m2) h2.choose_spec.choose #[] h2.choose_spec.choose)
  have HI0 := Hid.intro' hit
  have HB0 := Hid.intro' hbl
  generalize W.alloc (.mapIter (some m2) h2.choose_spec.choose #[] h2.choose_spec.choose) = V at hrg HI0 HB0
  have HM1 := Hid.intro' h1
  clear hit hbl h1 h2
  go_enter Try.func17, Try.ntmps17
  go_wp2_with fail
  clear hrg
  go_loopw [12] (fun _ wr => Hid (IT wr m2 W.heap.size E2 (SF.yge E1)) ∧ Hid (Below W.heap.size W wr)) (fun _ wr => lft wr m2 W.heap.size)
  case atStart => exact ⟨HI0, HB0⟩
  case round =>
    clear HI0 HB0
    obtain ⟨HI, HB⟩ := hrel
    rcases HI.out.next 0 W.heap.size (Nat.le_refl _) with ⟨hall, hnx⟩ | ⟨c, hc, V1, hnx, hsz, hbv, hlf, hen, hno, hoth⟩
    · have HE : Hid (false = r) := (any_false hall).trans HR.out
      clear hall HR
      go_wp2
      go_ret
      exact ⟨ret_boo HE.out, HB.out⟩
    · have HB1 := Hid.intro' (HB.out.trans hbv)
      have HLF := Hid.intro' hlf
      have HNO := Hid.intro' hno
      have hb2 := (Below.refl V1.heap.size V1).alloc (Nat.le_refl _) (.cells #[.int .i64 c.fl, .int .i64 c.ca, .bool c.up] 60)
      have HB2 := Hid.intro' hb2
      have hlk := ((HM1.out.below' HB1.out).below' hb2).look c
      have HCT := Hid.intro' hc
      unfold kyv at hnx hen hlk
      clear hlf hno hoth hbv hsz HI HB hc
      obtain ⟨wn, hwn⟩ : ∃ x, SF.wnt E1 c = x := ⟨_, rfl⟩
      have HW := Hid.intro' hwn
      cases hq : SF.lk c E1 with
      | some x =>
        rw [hq] at hlk
        simp only [Option.getD_some, Option.isSome_some] at hlk
        have hx : NumM.cl (NumM.cl x + NumM.cl 1) = wn := by rw [← hwn]; unfold SF.wnt; rw [hq]
        have HA := Hid.intro' (add_any x 1 (V1.alloc (.cells #[.int .i64 c.fl, .int .i64 c.ca, .bool c.up] 60)))
        rw [hx] at HA
        clear hq hb2 hwn hx
        go_wp2_with fail
        refine HA.out.mono ?_
        rintro e W3 ⟨rfl, rfl⟩
        clear HA
        by_cases q : c.ag = wn
        · have hq : (c.ag != wn) = false := by simpa using q
          have HP : Hid (SF.yge E1 c = false) := by show _ = _; unfold SF.yge; rw [HW.out]; simp [q]
          clear q
          go_wp2
          go_roundw
          case rel => exact ⟨(HNO.out HP.out).below' HB2.out, below_class HB1.out HB2.out⟩
          case measure => rw [lft_below (HNO.out HP.out) HB2.out]; exact HLF.out
        · have hq : (c.ag != wn) = true := by simpa using q
          have HE : Hid (true = r) := (any_true HCT.out (by unfold SF.yge; rw [HW.out]; simp [q])).trans HR.out
          clear q
          go_wp2
          go_ret
          exact ⟨ret_boo HE.out, below_class HB1.out HB2.out⟩
      | none =>
        rw [hq] at hlk
        simp only [Option.getD_none, Option.isSome_none] at hlk
        have hx : wn = 1 := by rw [← hwn]; unfold SF.wnt; rw [hq]
        subst hx
        clear hq hb2 hwn
        by_cases q : c.ag = 1
        · have hq : (c.ag != 1) = false := by simpa using q
          have HP : Hid (SF.yge E1 c = false) := by show _ = _; unfold SF.yge; rw [HW.out]; simp [q]
          clear q
          go_wp2
          go_roundw
          case rel => exact ⟨(HNO.out HP.out).below' HB2.out, below_class HB1.out HB2.out⟩
          case measure => rw [lft_below (HNO.out HP.out) HB2.out]; exact HLF.out
        · have hq : (c.ag != 1) = true := by simpa using q
          have HE : Hid (true = r) := (any_true HCT.out (by unfold SF.yge; rw [HW.out]; simp [q])).trans HR.out
          clear q
          go_wp2
          go_ret
          exact ⟨ret_boo HE.out, below_class HB1.out HB2.out⟩

end Go.Proofs.Ytjpkekmccbpclaj

/- Cars that go away, cars that leap, as the program tells them. -/
namespace Go.Proofs.Ytjpkekmccbpclaj
open Go.RowKit Go.Shelf Go.ChangeMaps Go.MapKept

theorem car_cells {W : World} {g q : Nat} {x : Cr} (h : W.rangeAt g q (ckv x)) : W.cell? ⟨g, q, none⟩ = some (.int .i64 x.fl) ∧ W.cell? ⟨g, q + 1, none⟩ = some (.int .i64 x.tg) ∧ W.cell? ⟨g, q + 2, none⟩ = some (.int .i64 x.ti) ∧ W.cell? ⟨g, q + 3, none⟩ = some (.int .i64 x.d.ph) ∧ W.cell? ⟨g, q + 4, none⟩ = some (.int .i64 x.d.le) ∧ W.cell? ⟨g, q + 5, none⟩ = some (.int .i64 x.d.ru) ∧ W.cell? ⟨g, q + 6, none⟩ = some (.bool x.d.he) ∧ W.cell? ⟨g, q + 7, none⟩ = some (.bool x.fa) :=
  ⟨h 0 _ rfl, h 1 _ rfl, h 2 _ rfl, h 3 _ rfl, h 4 _ rfl, h 5 _ rfl, h 6 _ rfl, h 7 _ rfl⟩
theorem aw_up {r : Bool} {a b : List Cr} : ∀ {n m : Nat}, n ≤ m → SF.aw r a b n = true → SF.aw r a b m = true
  | n, 0, h, h2 => by have : n = 0 := by omega
                      subst this; exact h2
  | n, m + 1, h, h2 => by
    by_cases e : n = m + 1
    · subst e; exact h2
    · unfold SF.aw
      rw [aw_up (by omega : n ≤ m) h2]; rfl
theorem lp_up {s : St} {a b : List Cr} : ∀ {n m : Nat}, n ≤ m → SF.lp s a b n = true → SF.lp s a b m = true
  | n, 0, h, h2 => by have : n = 0 := by omega
                      subst this; exact h2
  | n, m + 1, h, h2 => by
    by_cases e : n = m + 1
    · subst e; exact h2
    · unfold SF.lp
      rw [lp_up (by omega : n ≤ m) h2]; rfl
theorem aw_succ {r : Bool} {a b : List Cr} {n : Nat} {x y : Cr} (hx : a[n]? = some x) (hy : b[n]? = some y) : SF.aw r a b (n + 1) = (SF.aw r a b n || SF.aw1 r x y) := by
  show (SF.aw r a b n || (match a[n]?, b[n]? with | some x, some y => SF.aw1 r x y | _, _ => false)) = _
  rw [hx, hy]
theorem lp_succ {s : St} {a b : List Cr} {n : Nat} {x y : Cr} (hx : a[n]? = some x) (hy : b[n]? = some y) : SF.lp s a b (n + 1) = (SF.lp s a b n || !sfB s x y) := by
  show (SF.lp s a b n || (match a[n]?, b[n]? with | some x, some y => !sfB s x y | _, _ => false)) = _
  rw [hx, hy]

set_option maxHeartbeats 4000000 in
theorem goesAway_any (D : Nat → Prop) (va vb : Value) (a b : List Cr) (W : World) (ha : RK D W va a) (hb : RK D W vb b) (la : a.length ≤ 20) (_lb : b.length ≤ 20) :
    Calls Try.prog 16 #[va, vb] W fun e w' => e = .returned (.bool (SF.aw true a b (min a.length b.length))) ∧ Below W.heap.size W w' := by
  obtain ⟨aa, ka, rfl, -⟩ := ha.form
  obtain ⟨ab, kb, rfl, -⟩ := hb.form
  obtain ⟨r, HR⟩ : ∃ r, Hid (SF.aw true a b (min a.length b.length) = r) := ⟨_, Hid.intro' rfl⟩
  rw [HR.out]
  have HA := Hid.intro' ha
  have HBB := Hid.intro' hb
  obtain ⟨na, hna⟩ : ∃ n, a.length = n := ⟨_, rfl⟩
  obtain ⟨nb, hnb⟩ : ∃ n, b.length = n := ⟨_, rfl⟩
  have HNA := Hid.intro' hna
  have HNB := Hid.intro' hnb
  rw [hna] at HA la HR ⊢
  rw [hnb] at HBB HR ⊢
  clear hna hnb ha hb
  obtain ⟨mn, hmn, hm1, hm2⟩ : ∃ m : Nat, min na nb = m ∧ m ≤ na ∧ m ≤ nb := ⟨_, rfl, Nat.min_le_left _ _, Nat.min_le_right _ _⟩
  rw [hmn] at HR
  have hmz : (min (na : Int) (nb : Int)) = (mn : Int) := by omega
  have HMZ : Hid ((na ≤ nb → mn = na) ∧ (nb < na → mn = nb)) := ⟨fun h => by omega, fun h => by omega⟩
  clear hmn hmz
  go_enter Try.func16, Try.ntmps16
  go_upto_region 1 with (fail)
  go_cut [10, 11] (fun v10 v11 W2 => v10 = .int .i64 (mn : Int) ∧ v11 = .int .i64 0 ∧ W2 = W)
  case first =>
    by_cases q : nb < na
    · have e : mn = nb := HMZ.out.2 q
      have qz : (nb : Int) < (na : Int) := by omega
      have HE := Hid.intro' e
      clear e
      go_wp2
      go_meet
      case rel => exact ⟨by rw [HE.out], rfl, rfl⟩
    · have e : mn = na := HMZ.out.1 (by omega)
      have qz : ¬ (nb : Int) < (na : Int) := by omega
      have HE := Hid.intro' e
      clear e
      go_wp2
      go_meet
      case rel => exact ⟨by rw [HE.out], rfl, rfl⟩
  case rest =>
    obtain ⟨rfl, rfl, e⟩ := hcut
    subst e
    clear HMZ
    go_wp2_with fail
    have HB0 := Hid.intro' (Below.refl wc.heap.size wc)
    go_loopw [11] (fun iv wr => ∃ i : Nat, i ≤ mn ∧ iv = .int .i64 (i : Int) ∧ Hid (SF.aw true a b i = false) ∧ Hid (Below wc.heap.size wc wr)) (fun iv _ => mn - (intOf iv).toNat)
    case atStart => exact ⟨0, Nat.zero_le _, rfl, rfl, HB0⟩
    case round =>
      clear HB0
      obtain ⟨i, hi, rfl, HF, HB⟩ := hrel
      by_cases hlt : i < mn
      · have hz : (i : Int) < (mn : Int) := by omega
        have hia : i < na := by omega
        have hib : i < nb := by omega
        obtain ⟨x, hx⟩ : ∃ x, a[i]? = some x := ⟨_, List.getElem?_eq_getElem (by have := HNA.out; omega)⟩
        obtain ⟨y, hy⟩ : ∃ y, b[i]? = some y := ⟨_, List.getElem?_eq_getElem (by have := HNB.out; omega)⟩
        obtain ⟨ga, oa, e, hga, hra⟩ := (HA.out.below' HB.out).at hx
        subst e
        obtain ⟨gb, ob, e, hgb, hrb⟩ := (HBB.out.below' HB.out).at hy
        subst e
        have hixa : ∀ W : World, (Instr.indexAt 24 (.slice (some ⟨ga, oa, none⟩) na ka) (.int .i64 (i : Int))).run Try.prog W = .ok (.pointer (some ⟨ga, oa + i * 8, none⟩)) W := fun W => ixK W hia
        have hixb : ∀ W : World, (Instr.indexAt 24 (.slice (some ⟨gb, ob, none⟩) nb kb) (.int .i64 (i : Int))).run Try.prog W = .ok (.pointer (some ⟨gb, ob + i * 8, none⟩)) W := fun W => ixK W hib
        have HS : Hid (SF.aw true a b (i + 1) = SF.aw1 true x y) := by show _ = _; rw [aw_succ hx hy, HF.out]; rfl
        have HRA := Hid.intro' hra
        have HRB := Hid.intro' hrb
        have HGA := Hid.intro' hga
        have HGB := Hid.intro' hgb
        clear hx hy hra hrb hga hgb hia hib
        by_cases q1 : y.ti = 0
        · have HP : Hid (SF.aw true a b (i + 1) = false) := by show _ = _; rw [HS.out]; simp [SF.aw1, q1]
          have HM := Hid.intro' (smoves_f y q1 wr)
          clear q1 HS
          go_wp2_with (refine wpList_loadK rfl _ rfl gb (ob + i * 8) rfl HRB.out ?_)
          refine HM.out.mono ?_
          rintro e W1 ⟨rfl, hb⟩
          have HB1 := Hid.intro' (below_class HB.out hb)
          clear HM hb
          go_wp2
          go_roundw
          case rel => exact ⟨i + 1, by omega, by go_num, HP, HB1⟩
          case measure => simp [intOf]; omega
        · have HM := Hid.intro' (smoves_t y q1 wr)
          go_wp2_with (refine wpList_loadK rfl _ rfl gb (ob + i * 8) rfl HRB.out ?_)
          refine HM.out.mono ?_
          rintro e W1 ⟨rfl, hb⟩
          have HB1 := Hid.intro' (below_class HB.out hb)
          have HRA1 := Hid.intro' (rng_below HRA.out HGA.out hb)
          have HRB1 := Hid.intro' (rng_below HRB.out HGB.out hb)
          have HGA1 := Hid.intro' (Nat.lt_of_lt_of_le HGA.out hb.size)
          have HGB1 := Hid.intro' (Nat.lt_of_lt_of_le HGB.out hb.size)
          obtain ⟨a0, a1, a2, a3, a4, a5, a6, a7⟩ := car_cells HRA1.out
          clear HM hb HRA HRB HGA HGB HB
          by_cases q2 : x.ti = 0
          · have HM := Hid.intro' (smoves_f x q2 W1)
            have HQ2 := Hid.intro' q2
            clear q2
            go_wp2_with fail
            refine HM.out.mono ?_
            rintro e W2 ⟨rfl, hb⟩
            have HB2 := Hid.intro' (below_class HB1.out hb)
            obtain ⟨b0, b1, -⟩ := car_cells (rng_below HRB1.out HGB1.out hb)
            clear HM hb a0 a1 a2 a3 a4 a5 a6 a7 b0
            by_cases q3 : y.tg = 0
            · have q3' : (y.tg != 0) = false := by simpa using q3
              have HP : Hid (SF.aw true a b (i + 1) = false) := by show _ = _; rw [HS.out]; simp [SF.aw1, q3]
              clear q1 q3
              go_wp2
              go_roundw
              case rel => exact ⟨i + 1, by omega, by go_num, HP, HB2⟩
              case measure => simp [intOf]; omega
            · have q3' : (y.tg != 0) = true := by simpa using q3
              have HE : Hid (true = r) := by show _ = _; rw [← HR.out]; exact (aw_up (n := i + 1) (by omega) (by rw [HS.out]; simp [SF.aw1, q1, HQ2.out, q3])).symm
              clear q1 q3
              go_wp2
              go_ret
              exact ⟨ret_boo HE.out, HB2.out⟩
          · have HM := Hid.intro' (smoves_t x q2 W1)
            have HP : Hid (SF.aw true a b (i + 1) = false) := by show _ = _; rw [HS.out]; simp [SF.aw1, q2]
            go_wp2_with fail
            refine HM.out.mono ?_
            rintro e W2 ⟨rfl, hb⟩
            have HB2 := Hid.intro' (below_class HB1.out hb)
            clear HM hb a0 a1 a2 a3 a4 a5 a6 a7 q1 q2
            go_wp2
            go_roundw
            case rel => exact ⟨i + 1, by omega, by go_num, HP, HB2⟩
            case measure => simp [intOf]; omega
      · have hz : ¬ (i : Int) < (mn : Int) := by omega
        have e : i = mn := by omega
        have HE : Hid (false = r) := by show _ = _; rw [← HR.out, ← e]; exact HF.out.symm
        clear e
        go_wp2
        go_ret
        exact ⟨ret_boo HE.out, HB.out⟩

theorem sfB_right {s : St} {x y : Cr} (h : sfB s x y = true) : rightB s = true := by
  unfold sfB crB drB at h
  simp only [Bool.and_eq_true] at h
  exact h.1.1.1.1.1.1
theorem right_cars {s : St} (h : rightB s = true) : 1 ≤ s.ca := by
  obtain ⟨⟩ := (rightB_iff s).1 h
  omega

set_option maxHeartbeats 4000000 in
theorem leaps_any (D : Nat → Prop) (s : St) (va vb : Value) (a b : List Cr) (W : World) (ha : RK D W va a) (hb : RK D W vb b) (_la : a.length ≤ 20) (lb : b.length ≤ 20) :
    Calls Try.prog 14 #[.agg (sv s).toArray, va, vb] W fun e w' => e = .returned (.bool (SF.h1 s a b)) ∧ Below W.heap.size W w' := by
  obtain ⟨aa, ka, rfl, -⟩ := ha.form
  obtain ⟨ab, kb, rfl, -⟩ := hb.form
  rw [SF.h1_right (fun _ _ => sfB_right) right_cars]
  obtain ⟨r, HR⟩ : ∃ r, Hid ((!rightB s || (decide ((a.length : Int) ≠ s.ca) || (decide ((b.length : Int) ≠ s.ca) || SF.lp s a b b.length))) = r) := ⟨_, Hid.intro' rfl⟩
  rw [HR.out]
  have hb0 := (Below.refl W.heap.size W).alloc (Nat.le_refl _) (.cells (sv s).toArray 23)
  have HA := Hid.intro' (ha.below' hb0)
  have HBB := Hid.intro' (hb.below' hb0)
  have HS := Hid.intro' (SB.new W s)
  have HB := Hid.intro' hb0
  obtain ⟨na, hna⟩ : ∃ n, a.length = n := ⟨_, rfl⟩
  obtain ⟨nb, hnb⟩ : ∃ n, b.length = n := ⟨_, rfl⟩
  have HNA := Hid.intro' hna
  have HNB := Hid.intro' hnb
  rw [hna] at HA HR ⊢
  rw [hnb] at HBB lb HR ⊢
  clear hna hnb ha hb hb0
  go_enter Try.func14, Try.ntmps14
  go_wp2_with (refine wpList_load23 rfl _ rfl W.heap.size s rfl HS.out ?_)
  have hrt := right_any s (W.alloc (.cells (sv s).toArray 23))
  cases q1 : rightB s
  · rw [q1] at hrt
    have HE : Hid (true = r) := by show _ = _; rw [← HR.out, q1]; rfl
    refine hrt.mono ?_
    rintro e W1 ⟨rfl, hb⟩
    have HB1 := Hid.intro' (below_class HB.out hb)
    clear q1 hrt hb HA HBB HS HB HR
    go_wp2
    go_ret
    exact ⟨ret_boo HE.out, HB1.out⟩
  · rw [q1] at hrt
    refine hrt.mono ?_
    rintro e W1 ⟨rfl, hb⟩
    have HB1 := Hid.intro' (below_class HB.out hb)
    have HA1 := Hid.intro' (HA.out.below' hb)
    have HBB1 := Hid.intro' (HBB.out.below' hb)
    have HS1 := Hid.intro' (HS.out.below' hb)
    have HQ1 := Hid.intro' q1
    clear q1 hrt hb HA HBB HS HB
    have m1 : W1.cell? ⟨W.heap.size, 1, none⟩ = some (.int .i64 s.ca) := HS1.out.cell 1
    by_cases q2 : (na : Int) = s.ca
    · have d2 : ((na : Int) != s.ca) = false := by simpa using q2
      by_cases q3 : (nb : Int) = s.ca
      · have d3 : ((nb : Int) != s.ca) = false := by simpa using q3
        have HE0 : Hid (SF.lp s a b nb = r) := by show _ = _; rw [← HR.out, HQ1.out]; simp [q2, q3]
        have HNN : Hid (na = nb) := by show _ = _; omega
        clear q2 q3 HR
        go_wp2_with fail
        clear d2 d3 m1
        go_loopw [27] (fun iv wr => ∃ i : Nat, i ≤ nb ∧ iv = .int .i64 (i : Int) ∧ Hid (SF.lp s a b i = false) ∧ Hid (Below W.heap.size W wr) ∧ Hid (Below W1.heap.size W1 wr)) (fun iv _ => nb - (intOf iv).toNat)
        case atStart => exact ⟨0, Nat.zero_le _, rfl, rfl, HB1, Below.refl _ _⟩
        case round =>
          clear HB1
          obtain ⟨i, hi, rfl, HF, HB, HB2⟩ := hrel
          by_cases hlt : i < nb
          · have hz : (i : Int) < (nb : Int) := by omega
            have hia : i < na := by have := HNN.out; omega
            obtain ⟨x, hx⟩ : ∃ x, a[i]? = some x := ⟨_, List.getElem?_eq_getElem (by have := HNA.out; omega)⟩
            obtain ⟨y, hy⟩ : ∃ y, b[i]? = some y := ⟨_, List.getElem?_eq_getElem (by have := HNB.out; omega)⟩
            obtain ⟨ga, oa, e, hga, hra⟩ := (HA1.out.below' HB2.out).at hx
            subst e
            obtain ⟨gb, ob, e, hgb, hrb⟩ := (HBB1.out.below' HB2.out).at hy
            subst e
            have hixa : ∀ W : World, (Instr.indexAt 24 (.slice (some ⟨ga, oa, none⟩) na ka) (.int .i64 (i : Int))).run Try.prog W = .ok (.pointer (some ⟨ga, oa + i * 8, none⟩)) W := fun W => ixK W hia
            have hixb : ∀ W : World, (Instr.indexAt 24 (.slice (some ⟨gb, ob, none⟩) nb kb) (.int .i64 (i : Int))).run Try.prog W = .ok (.pointer (some ⟨gb, ob + i * 8, none⟩)) W := fun W => ixK W hlt
            have HL : Hid (SF.lp s a b (i + 1) = !sfB s x y) := by show _ = _; rw [lp_succ hx hy, HF.out]; rfl
            have HRA : Hid (∀ w', Below wr.heap.size wr w' → w'.rangeAt ga (oa + i * 8) (ckv x)) := fun w' hw => rng_below hra hga hw
            have HRB : Hid (∀ w', Below wr.heap.size wr w' → w'.rangeAt gb (ob + i * 8) (ckv y)) := fun w' hw => rng_below hrb hgb hw
            have hsb := HS1.out.below' HB2.out
            have HSB : Hid (∀ w', Below wr.heap.size wr w' → SB w' W.heap.size s) := fun w' hw => hsb.below' hw
            clear hx hy hra hrb hga hgb hia hsb
            cases hq : sfB s x y
            · have HCL : Hid (∀ w', Calls Try.prog 25 #[.agg (sv s).toArray, .agg #[.int .i64 x.fl, .int .i64 x.tg, .int .i64 x.ti, .int .i64 x.d.ph, .int .i64 x.d.le, .int .i64 x.d.ru, .bool x.d.he, .bool x.fa], .agg #[.int .i64 y.fl, .int .i64 y.tg, .int .i64 y.ti, .int .i64 y.d.ph, .int .i64 y.d.le, .int .i64 y.d.ru, .bool y.d.he, .bool y.fa]] w' fun e w'' => e = .returned (.bool false) ∧ Below w'.heap.size w' w'') := fun w' => by
                have h := csafe_any s x y w'
                rwa [hq] at h
              have HE : Hid (true = r) := by show _ = _; rw [← HE0.out]; exact (lp_up (n := i + 1) (by omega) (by rw [HL.out, hq]; rfl)).symm
              clear hq HL
              go_wp2_with fail
              refine wp_region_quiet (C := fun w' => Below wr.heap.size wr w') (by kernel_rfl) (by kernel_rfl) ((Below.refl _ _).drew) ?_
              simp only []
              unfold wpQuiet
              generalize hK : wpQuiet Try.prog _ _ _ _ = K
              rw [if_pos (by go_simp)]
              refine quiet_load23 _ _ s rfl rfl HSB.out ?_
              go_simp
              subst hK
              unfold wpQuiet
              generalize hK : wpQuiet Try.prog _ _ _ _ = K
              go_simp
              refine ⟨_, fun _ _ => rfl, ?_⟩
              subst hK
              unfold wpQuiet
              generalize hK : wpQuiet Try.prog _ _ _ _ = K
              go_simp
              refine ⟨_, fun _ _ => rfl, ?_⟩
              subst hK
              unfold wpQuiet
              generalize hK : wpQuiet Try.prog _ _ _ _ = K
              go_simp
              refine ⟨_, fun _ _ => rfl, ?_⟩
              subst hK
              unfold wpQuiet
              generalize hK : wpQuiet Try.prog _ _ _ _ = K
              rw [if_pos (by go_simp)]
              refine quiet_loadK _ _ _ rfl rfl HRA.out ?_
              go_simp
              subst hK
              unfold wpQuiet
              generalize hK : wpQuiet Try.prog _ _ _ _ = K
              go_simp
              refine ⟨_, fun _ _ => rfl, ?_⟩
              subst hK
              unfold wpQuiet
              generalize hK : wpQuiet Try.prog _ _ _ _ = K
              go_simp
              refine ⟨_, fun _ _ => rfl, ?_⟩
              subst hK
              unfold wpQuiet
              generalize hK : wpQuiet Try.prog _ _ _ _ = K
              go_simp
              refine ⟨_, fun _ _ => rfl, ?_⟩
              subst hK
              unfold wpQuiet
              generalize hK : wpQuiet Try.prog _ _ _ _ = K
              rw [if_pos (by go_simp)]
              refine quiet_loadK _ _ _ rfl rfl HRB.out ?_
              go_simp
              subst hK
              unfold wpQuiet
              generalize hK : wpQuiet Try.prog _ _ _ _ = K
              go_simp
              refine ⟨_, fun w' hw => (HCL.out w').mono fun e w'' hh => ⟨hh.1, below_class hw hh.2⟩, ?_⟩
              subst hK
              unfold wpQuiet
              generalize hK : wpQuiet Try.prog _ _ _ _ = K
              go_simp
              refine ⟨_, fun _ _ => rfl, ?_⟩
              subst hK
              refine wpQuiet_nil ?_
              intro W7 hb7
              have HB7 := Hid.intro' (below_class HB.out hb7)
              clear hb7 HSB HRA HRB HCL HB HB2
              go_wp2
              go_ret
              exact ⟨ret_boo HE.out, HB7.out⟩
            · have HCL : Hid (∀ w', Calls Try.prog 25 #[.agg (sv s).toArray, .agg #[.int .i64 x.fl, .int .i64 x.tg, .int .i64 x.ti, .int .i64 x.d.ph, .int .i64 x.d.le, .int .i64 x.d.ru, .bool x.d.he, .bool x.fa], .agg #[.int .i64 y.fl, .int .i64 y.tg, .int .i64 y.ti, .int .i64 y.d.ph, .int .i64 y.d.le, .int .i64 y.d.ru, .bool y.d.he, .bool y.fa]] w' fun e w'' => e = .returned (.bool true) ∧ Below w'.heap.size w' w'') := fun w' => by
                have h := csafe_any s x y w'
                rwa [hq] at h
              have HP : Hid (SF.lp s a b (i + 1) = false) := by show _ = _; rw [HL.out, hq]; rfl
              clear hq HL
              go_wp2_with fail
              refine wp_region_quiet (C := fun w' => Below wr.heap.size wr w') (by kernel_rfl) (by kernel_rfl) ((Below.refl _ _).drew) ?_
              simp only []
              unfold wpQuiet
              generalize hK : wpQuiet Try.prog _ _ _ _ = K
              rw [if_pos (by go_simp)]
              refine quiet_load23 _ _ s rfl rfl HSB.out ?_
              go_simp
              subst hK
              unfold wpQuiet
              generalize hK : wpQuiet Try.prog _ _ _ _ = K
              go_simp
              refine ⟨_, fun _ _ => rfl, ?_⟩
              subst hK
              unfold wpQuiet
              generalize hK : wpQuiet Try.prog _ _ _ _ = K
              go_simp
              refine ⟨_, fun _ _ => rfl, ?_⟩
              subst hK
              unfold wpQuiet
              generalize hK : wpQuiet Try.prog _ _ _ _ = K
              go_simp
              refine ⟨_, fun _ _ => rfl, ?_⟩
              subst hK
              unfold wpQuiet
              generalize hK : wpQuiet Try.prog _ _ _ _ = K
              rw [if_pos (by go_simp)]
              refine quiet_loadK _ _ _ rfl rfl HRA.out ?_
              go_simp
              subst hK
              unfold wpQuiet
              generalize hK : wpQuiet Try.prog _ _ _ _ = K
              go_simp
              refine ⟨_, fun _ _ => rfl, ?_⟩
              subst hK
              unfold wpQuiet
              generalize hK : wpQuiet Try.prog _ _ _ _ = K
              go_simp
              refine ⟨_, fun _ _ => rfl, ?_⟩
              subst hK
              unfold wpQuiet
              generalize hK : wpQuiet Try.prog _ _ _ _ = K
              go_simp
              refine ⟨_, fun _ _ => rfl, ?_⟩
              subst hK
              unfold wpQuiet
              generalize hK : wpQuiet Try.prog _ _ _ _ = K
              rw [if_pos (by go_simp)]
              refine quiet_loadK _ _ _ rfl rfl HRB.out ?_
              go_simp
              subst hK
              unfold wpQuiet
              generalize hK : wpQuiet Try.prog _ _ _ _ = K
              go_simp
              refine ⟨_, fun w' hw => (HCL.out w').mono fun e w'' hh => ⟨hh.1, below_class hw hh.2⟩, ?_⟩
              subst hK
              unfold wpQuiet
              generalize hK : wpQuiet Try.prog _ _ _ _ = K
              go_simp
              refine ⟨_, fun _ _ => rfl, ?_⟩
              subst hK
              refine wpQuiet_nil ?_
              intro W7 hb7
              have HB7 := Hid.intro' (below_class HB.out hb7)
              have HB8 := Hid.intro' (below_class HB2.out hb7)
              clear hb7 HSB HRA HRB HCL HB HB2
              go_wp2
              go_roundw
              case rel => exact ⟨i + 1, by omega, by go_num, HP, HB7, HB8⟩
              case measure => simp [intOf]; omega
          · have hz : ¬ (i : Int) < (nb : Int) := by omega
            have e : i = nb := by omega
            have HE : Hid (false = r) := by show _ = _; rw [← HE0.out, ← e]; exact HF.out.symm
            clear e
            go_wp2
            go_ret
            exact ⟨ret_boo HE.out, HB.out⟩
      · have d3 : ((nb : Int) != s.ca) = true := by simpa using q3
        have HE : Hid (true = r) := by show _ = _; rw [← HR.out, HQ1.out]; simp [q3]
        clear q2 q3
        go_wp2
        go_ret
        exact ⟨ret_boo HE.out, HB1.out⟩
    · have d2 : ((na : Int) != s.ca) = true := by simpa using q2
      have HE : Hid (true = r) := by show _ = _; rw [← HR.out, HQ1.out]; simp [q2]
      clear q2
      go_wp2
      go_ret
      exact ⟨ret_boo HE.out, HB1.out⟩

end Go.Proofs.Ytjpkekmccbpclaj

/- A list is put behind a row of numbers. -/
namespace Go.Proofs.Ytjpkekmccbpclaj
open Go.RowKit

/-- a list is put behind a row of numbers -/
theorem wpList_appendRI {ops : Array Oper} {rest : List Oper} {o : Oper} {a : Act} {w : World} {Q : Exit → Act → World → Prop} (hgd : o.guard = none) (s x : Operand)
    (ho : o.op = .call { callee := .builtin .append, args := #[s, x], argTypes := #[28, 28] })
    (B : Nat) (v u : Value) (l m : List Int) (D : Nat → Prop) (hs : a.eval s = v) (hown : OI w B v l) (hx : a.eval x = u) (hr : RI D w u m)
    (h63 : l.length + m.length ≤ 1000000) (hB : B ≤ w.heap.size)
    (h : ∀ v' w', OI w' B v' (l ++ m) → w.grownBy w' v.ownBlock → wpList Try.prog ops Q rest (a.put o.dst v') w') : wpList Try.prog ops Q (o :: rest) a w := by
  obtain ⟨ao, cap, rfl, hc, hn⟩ := hr.form
  obtain ⟨i0, hi, hz0, hz1, hz2⟩ := info_parts infoI
  cases ao with
  | none =>
    obtain rfl : cap = 0 := hn rfl
    obtain rfl : m = [] := List.length_eq_zero_iff.1 (by omega)
    refine wpList_append_own_none hgd s x 28 ho B 3 i0 1 Try.underlying28 hi v l.length (ic l) hs hown (by rw [hx]; rfl) ?_
    refine h v w ?_ (World.grownBy.refl w _)
    rw [List.append_nil]; exact hown
  | some ad =>
    refine wpList_append_own w hgd s x 28 ho B 3 i0 _ 1 8 Try.underlying28 hi hz0 hz1 hz2 rfl (by decide) v l.length (ic l) hs hown ad m.length cap (ic m) hx (by rw [ic_length, Nat.mul_one]) ?_ (ic_one m) (by unfold maxLen; omega) (by omega) hB ?_
    · intro j u hj
      obtain ⟨y, hy, rfl⟩ := ic_get hj
      obtain ⟨g, o', e, hc'⟩ := hr.at hy
      cases e
      rw [Addr.add_mid]; exact hc'
    · intro v' w' h1 h2 _
      refine h v' w' ?_ h2
      unfold OI
      rw [List.length_append, ic_append]
      exact h1
theorem grown_none {w w' : World} (h : w.grownBy w' none) : Below w.heap.size w w' := ⟨h.os, h.tape, h.output, h.size, fun k hk => h.block k hk (fun e => by cases e)⟩
theorem own_some {g n c q : Nat} (h : (Value.slice (some ⟨g, 0, none⟩) n c).ownBlock = some q) : g = q := by simpa [Value.ownBlock] using h

end Go.Proofs.Ytjpkekmccbpclaj
