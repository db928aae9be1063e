/- The contracts of package car's small functions. -/
import Derived.Test.YtjcccdlhdffbdacCarB
namespace Go.Proofs.Ytjcccdlhdffbdac
open Go.RowKit

/-- what a call keeps: a site's block and a car's -/
theorem calls_keepC {f : FuncId} {args : Array Value} {w0 W : World} {bs bc : Nat} {s : St} {c : Cr} {R : Ending → Prop}
    (hc : Calls Try.prog f args W fun e w' => R e ∧ Below W.heap.size W w') (hB : Below w0.heap.size w0 W) (hS : SB W bs s) (hC : CB W bc c) :
    Calls Try.prog f args W fun e w' => R e ∧ Below w0.heap.size w0 w' ∧ SB w' bs s ∧ CB w' bc c :=
  hc.mono fun _ _ hh => ⟨hh.1, below_class hB hh.2, hS.below' hh.2, hC.below' hh.2⟩

theorem at_any (f : Int) (w : World) :
    Calls Try.prog 20 #[.int .i64 f] w fun e w' => e = .returned (cv (CM.atF f)) ∧ Below w.heap.size w w' := by
  go_enter Try.func20, Try.ntmps20
  go_wp2
  refine bodyPost_ret (by simp [results, Try.results20, go_sem]; rfl) rfl ?_
  exact ⟨rfl, (Below.refl _ w).alloc (Nat.le_refl _) _⟩

theorem moves_any (c : Cr) (w : World) :
    Calls Try.prog 29 #[.agg #[.int .i64 c.fl, .int .i64 c.tg, .int .i64 c.ti, .int .i64 c.d.ph, .int .i64 c.d.le, .int .i64 c.d.ru, .bool c.d.he, .bool c.fa]] w fun e w' => e = .returned (.bool (c.ti != 0)) ∧ Below w.heap.size w w' := by
  go_enter Try.func29, Try.ntmps29
  go_wp2
  go_ret
  exact ⟨rfl, (Below.refl _ w).alloc (Nat.le_refl _) _⟩
theorem isShutC_any (c : Cr) (w : World) :
    Calls Try.prog 31 #[.agg #[.int .i64 c.fl, .int .i64 c.tg, .int .i64 c.ti, .int .i64 c.d.ph, .int .i64 c.d.le, .int .i64 c.d.ru, .bool c.d.he, .bool c.fa]] w fun e w' => e = .returned (.bool (c.d.ph == 0)) ∧ Below w.heap.size w w' := by
  go_enter Try.func31, Try.ntmps31
  go_wp2
  go_ret
  exact ⟨rfl, (Below.refl _ w).alloc (Nat.le_refl _) _⟩
theorem moves_t (c : Cr) (h : c.ti ≠ 0) (w : World) : Calls Try.prog 29 #[.agg #[.int .i64 c.fl, .int .i64 c.tg, .int .i64 c.ti, .int .i64 c.d.ph, .int .i64 c.d.le, .int .i64 c.d.ru, .bool c.d.he, .bool c.fa]] w fun e w' => e = .returned (.bool true) ∧ Below w.heap.size w w' := by
  have := moves_any c w
  rwa [show (c.ti != 0) = true by simpa using h] at this
theorem moves_f (c : Cr) (h : c.ti = 0) (w : World) : Calls Try.prog 29 #[.agg #[.int .i64 c.fl, .int .i64 c.tg, .int .i64 c.ti, .int .i64 c.d.ph, .int .i64 c.d.le, .int .i64 c.d.ru, .bool c.d.he, .bool c.fa]] w fun e w' => e = .returned (.bool false) ∧ Below w.heap.size w w' := by
  have := moves_any c w
  rwa [show (c.ti != 0) = false by simpa using h] at this
theorem shutC_t (c : Cr) (h : c.d.ph = 0) (w : World) : Calls Try.prog 31 #[.agg #[.int .i64 c.fl, .int .i64 c.tg, .int .i64 c.ti, .int .i64 c.d.ph, .int .i64 c.d.le, .int .i64 c.d.ru, .bool c.d.he, .bool c.fa]] w fun e w' => e = .returned (.bool true) ∧ Below w.heap.size w w' := by
  have := isShutC_any c w
  rwa [show (c.d.ph == 0) = true by simpa using h] at this
theorem shutC_f (c : Cr) (h : c.d.ph ≠ 0) (w : World) : Calls Try.prog 31 #[.agg #[.int .i64 c.fl, .int .i64 c.tg, .int .i64 c.ti, .int .i64 c.d.ph, .int .i64 c.d.le, .int .i64 c.d.ru, .bool c.d.he, .bool c.fa]] w fun e w' => e = .returned (.bool false) ∧ Below w.heap.size w w' := by
  have := isShutC_any c w
  rwa [show (c.d.ph == 0) = false by simpa using h] at this

theorem has_any (s : St) (f : Int) (w : World) :
    Calls Try.prog 28 #[.agg (sv s).toArray, .int .i64 f] w fun e w' => e = .returned (.bool (CM.has s f)) ∧ Below w.heap.size w w' := by
  have n0 := SB.new w s
  have hc0 : (w.alloc (.cells (sv s).toArray 23)).cell? ⟨w.heap.size, 0, none⟩ = some (.int .i64 s.fl) := n0.cell 0
  have HB : Hid (Below w.heap.size w (w.alloc (.cells (sv s).toArray 23))) := Hid.intro' ((Below.refl _ w).alloc (Nat.le_refl _) _)
  clear n0
  go_enter Try.func28, Try.ntmps28
  go_wp2
  all_goals
    clear hc0
    go_ret
    refine ⟨ret_boo ?_, HB.out⟩
    unfold CM.has
    first | (simp_all; done) | (simp_all; omega)
theorem has_t (s : St) (f : Int) (h : CM.has s f = true) (w : World) : Calls Try.prog 28 #[.agg (sv s).toArray, .int .i64 f] w fun e w' => e = .returned (.bool true) ∧ Below w.heap.size w w' := by
  have := has_any s f w
  rwa [h] at this
theorem has_f (s : St) (f : Int) (h : CM.has s f = false) (w : World) : Calls Try.prog 28 #[.agg (sv s).toArray, .int .i64 f] w fun e w' => e = .returned (.bool false) ∧ Below w.heap.size w w' := by
  have := has_any s f w
  rwa [h] at this

theorem wayOf_any (c : Cr) (w : World) :
    Calls Try.prog 35 #[.agg #[.int .i64 c.fl, .int .i64 c.tg, .int .i64 c.ti, .int .i64 c.d.ph, .int .i64 c.d.le, .int .i64 c.d.ru, .bool c.d.he, .bool c.fa]] w fun e w' => e = .returned (.agg #[.int .i64 c.fl, .int .i64 c.tg]) ∧ Below w.heap.size w w' := by
  go_enter Try.func35, Try.ntmps35
  go_wp2
  refine bodyPost_ret (by simp [results, Try.results35, go_sem]; rfl) rfl ?_
  exact ⟨rfl, ((Below.refl _ w).alloc (Nat.le_refl _) _).alloc (by simp) _⟩

set_option maxHeartbeats 1000000 in
theorem ride_any (c : Cr) (h1 : 1 ≤ c.ti) (h2 : c.ti ≤ 65000) (w : World) :
    Calls Try.prog 34 #[.agg #[.int .i64 c.fl, .int .i64 c.tg, .int .i64 c.ti, .int .i64 c.d.ph, .int .i64 c.d.le, .int .i64 c.d.ru, .bool c.d.he, .bool c.fa]] w fun e w' => e = .returned (cv (CM.ride c)) ∧ Below w.heap.size w w' := by
  obtain ⟨f, t, k, d, x⟩ := c
  simp only at h1 h2
  by_cases hk : k = 1
  · subst hk
    clear h1 h2
    go_enter Try.func34, Try.ntmps34
    go_wp2
    refine bodyPost_ret (by simp [results, Try.results34, go_sem]; rfl) rfl ?_
    exact ⟨rfl, ((Below.refl _ w).alloc (Nat.le_refl _) _).alloc (by simp) _⟩
  · have hq : (k - 1 == 0) = false := by simp; omega
    have HK := Hid.intro' hk
    clear hk
    go_enter Try.func34, Try.ntmps34
    go_wp2
    refine bodyPost_ret (by simp [results, Try.results34, go_sem]; rfl) rfl ?_
    refine ⟨?_, ((Below.refl _ w).alloc (Nat.le_refl _) _).alloc (by simp) _⟩
    unfold CM.ride
    rw [if_neg HK.out]
    rfl

theorem idle_any (c : Cr) (w : World) :
    Calls Try.prog 18 #[.agg #[.int .i64 c.fl, .int .i64 c.tg, .int .i64 c.ti, .int .i64 c.d.ph, .int .i64 c.d.le, .int .i64 c.d.ru, .bool c.d.he, .bool c.fa]] w fun e w' => e = .returned (.bool (CM.idle c)) ∧ Below w.heap.size w w' := by
  have HB : Hid (Below w.heap.size w (w.alloc (.cells #[.int .i64 c.fl, .int .i64 c.tg, .int .i64 c.ti, .int .i64 c.d.ph, .int .i64 c.d.le, .int .i64 c.d.ru, .bool c.d.he, .bool c.fa] 31))) := Hid.intro' ((Below.refl _ w).alloc (Nat.le_refl _) _)
  have HN := Hid.intro' (CB.new w c)
  go_enter Try.func18, Try.ntmps18
  go_wp2_with (refine wpList_loadC rfl _ rfl w.heap.size rfl HN.out ?_)
  by_cases hm : c.ti = 0
  · refine (moves_f c hm _).mono ?_
    rintro e W1 ⟨rfl, hb⟩
    have HB1 := Hid.intro' (below_class HB.out hb)
    have HN1 := Hid.intro' (HN.out.below' hb)
    have HM := Hid.intro' hm
    clear hb HB HN hm
    go_wp2_with (refine wpList_loadCg rfl _ rfl w.heap.size rfl HN1.out ?_)
    refine (isShutC_any c _).mono ?_
    rintro e W2 ⟨rfl, hb⟩
    have HB2 := Hid.intro' (below_class HB1.out hb)
    clear hb HB1 HN1
    go_wp2
    go_ret
    refine ⟨ret_boo ?_, HB2.out⟩
    unfold CM.idle
    simp [HM.out]
    rfl
  · refine (moves_t c hm _).mono ?_
    rintro e W1 ⟨rfl, hb⟩
    have HB1 := Hid.intro' (below_class HB.out hb)
    have HM := Hid.intro' hm
    clear hb HB HN hm
    go_wp2
    go_ret
    refine ⟨ret_boo ?_, HB1.out⟩
    unfold CM.idle
    simp [HM.out]

end Go.Proofs.Ytjcccdlhdffbdac
