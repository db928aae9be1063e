/- The nearest floor of a set, and the example of the document. -/
import Derived.Test.YtklekpkchpnmiaaFloorsNear
namespace Go.Proofs.Ytklekpkchpnmiaa
open Go.RowKit Go.Shelf

/-- the nearest floor, and whether there is one -/
def nearN (s : Nat) (f : Int) : Nat × Bool :=
  match (FM.downL s f).head?, (FM.upL s f).head? with
  | none, u => (u.getD 0, u.isSome)
  | some b, none => (b, true)
  | some b, some a => if (a : Int) - f < f - (b : Int) then (a, true) else (b, true)

theorem mem_head {l : List Nat} {a : Nat} (h : l.head? = some a) : a ∈ l := by
  cases l with
  | nil => cases h
  | cons x l => simp at h; subst h; simp
theorem down_head {s : Nat} {f : Int} {b : Nat} (h : (FM.downL s f).head? = some b) : (b : Int) ≤ f ∧ b < 64 ∧ s.testBit b = true := by
  have := mem_head h
  unfold FM.downL at this
  rw [List.mem_reverse, FM.seg_mem] at this
  refine ⟨?_, ?_, this.2.2⟩
  · split at this <;> omega
  · split at this <;> omega
theorem up_head {s : Nat} {f : Int} {a : Nat} (h : (FM.upL s f).head? = some a) : f ≤ (a : Int) ∧ a < 64 ∧ s.testBit a = true := by
  have := mem_head h
  unfold FM.upL at this
  rw [FM.seg_mem] at this
  exact ⟨by omega, this.1, this.2.2⟩
theorem ret_two {a b : Nat × Bool} (h : a = b) : Ending.returned (.tuple #[.int .i64 ((a.1 : Nat) : Int), .bool a.2]) = .returned (.tuple #[.int .i64 ((b.1 : Nat) : Int), .bool b.2]) := by rw [h]

set_option maxRecDepth 100000 in
set_option maxHeartbeats 2000000 in
theorem nearest_any (s : Nat) (f : Int) (w : World) (hs : s < 18446744073709551616) :
    Calls Try.prog 31 #[.int .u64 s, .int .i64 f] w fun e w' => e = .returned (.tuple #[.int .i64 (((nearN s f).1 : Nat) : Int), .bool (nearN s f).2]) ∧ Below w.heap.size w w' := by
  obtain ⟨R, hR⟩ : ∃ R : Nat × Bool, nearN s f = R := ⟨_, rfl⟩
  rw [hR]
  have key : ((FM.downL s f).head? = none ∧ R = ((FM.upL s f).head?.getD 0, (FM.upL s f).head?.isSome)) ∨
      (∃ b : Nat, (FM.downL s f).head? = some b ∧ (FM.upL s f).head? = none ∧ R = (b, true)) ∨
      (∃ a b : Nat, (FM.downL s f).head? = some b ∧ (FM.upL s f).head? = some a ∧ (a : Int) - f < f - (b : Int) ∧ R = (a, true)) ∨
      (∃ a b : Nat, (FM.downL s f).head? = some b ∧ (FM.upL s f).head? = some a ∧ ¬ (a : Int) - f < f - (b : Int) ∧ R = (b, true)) := by
    unfold nearN at hR
    cases hd : (FM.downL s f).head? with
    | none => left; rw [hd] at hR; exact ⟨rfl, hR.symm⟩
    | some b =>
      cases hu : (FM.upL s f).head? with
      | none => right; left; rw [hd, hu] at hR; exact ⟨b, rfl, rfl, hR.symm⟩
      | some a =>
        rw [hd, hu] at hR
        by_cases h : (a : Int) - f < f - (b : Int)
        · right; right; left; simp only [if_pos h] at hR; exact ⟨a, b, rfl, rfl, h, hR.symm⟩
        · right; right; right; simp only [if_neg h] at hR; exact ⟨a, b, rfl, rfl, h, hR.symm⟩
  clear hR
  rcases key with ⟨hd, rfl⟩ | ⟨b, hd, hu, rfl⟩ | ⟨a, b, hd, hu, hlt, rfl⟩ | ⟨a, b, hd, hu, hlt, rfl⟩
  all_goals
    first
      | obtain ⟨d1, d2, d3⟩ := down_head hd
        obtain ⟨u1, u2, u3⟩ := up_head hu
        clear d3 u3
      | skip
    go_enter Try.func31, Try.ntmps31
    go_wp2_with (go_at_call 29; refine (down_any _ _ _).mono ?_; rintro e w' ⟨rfl, rfl⟩)
    have b0 := (Boxed.new w 33 (.int .u64 s)).alloc (.cells #[.int .i64 f] 3)
    have b1 := Boxed.new (w.alloc (.cells #[.int .u64 s] 33)) 3 (.int .i64 f)
    rw [World.size_alloc] at b1
    have hB1 : Below w.heap.size w ((w.alloc (.cells #[.int .u64 s] 33)).alloc (.cells #[.int .i64 f] 3)) := ((Below.refl _ w).alloc (Nat.le_refl _) _).alloc (by simp) _
    have c1 := first_any 39 #[.pointer (some ⟨w.heap.size + 1, 0, none⟩), .pointer (some ⟨w.heap.size, 0, none⟩)] (FM.downL s f) w.heap.size _ b0.lt (enters_of Try.func39 (by kernel_rfl) rfl)
      (down_stops 8 (w.heap.size + 1) w.heap.size s f hs _ b1.lt b0.lt b1.cell b0.cell)
    have C1 := Hid.intro' c1
    have HB1 := Hid.intro' hB1
    clear c1 hB1 b0 b1
    generalize (w.alloc (.cells #[.int .u64 s] 33)).alloc (.cells #[.int .i64 f] 3) = W1 at C1 HB1 ⊢
    refine (C1.out).mono ?_
    rintro e W2 ⟨rfl, hb2⟩
    have HB2 : Hid (Below w.heap.size w W2) := HB1.out.trans (hb2.mono HB1.out.size)
    clear HB1 C1 hb2
    go_wp2_with (go_at_call 28; refine (up_any _ _ _).mono ?_; rintro e w' ⟨rfl, rfl⟩)
    have b0 := (Boxed.new W2 33 (.int .u64 s)).alloc (.cells #[.int .i64 f] 3)
    have b1 := Boxed.new (W2.alloc (.cells #[.int .u64 s] 33)) 3 (.int .i64 f)
    rw [World.size_alloc] at b1
    have hB3 : Below W2.heap.size W2 ((W2.alloc (.cells #[.int .u64 s] 33)).alloc (.cells #[.int .i64 f] 3)) := ((Below.refl _ W2).alloc (Nat.le_refl _) _).alloc (by simp) _
    have c1 := first_any 38 #[.pointer (some ⟨W2.heap.size + 1, 0, none⟩), .pointer (some ⟨W2.heap.size, 0, none⟩)] (FM.upL s f) W2.heap.size _ b0.lt (enters_of Try.func38 (by kernel_rfl) rfl)
      (up_stops 8 (W2.heap.size + 1) W2.heap.size s f hs _ b1.lt b0.lt b1.cell b0.cell)
    have C1 := Hid.intro' c1
    have HB3 : Hid (Below w.heap.size w ((W2.alloc (.cells #[.int .u64 s] 33)).alloc (.cells #[.int .i64 f] 3))) := HB2.out.trans (hB3.mono HB2.out.size)
    clear c1 hB3 b0 b1 HB2
    generalize (W2.alloc (.cells #[.int .u64 s] 33)).alloc (.cells #[.int .i64 f] 3) = W3 at C1 HB3 ⊢
    refine (C1.out).mono ?_
    rintro e W4 ⟨rfl, hb4⟩
    have HB4 : Hid (Below w.heap.size w W4) := HB3.out.trans (hb4.mono HB3.out.size)
    clear HB3 C1 hb4
    go_wp2
    go_ret2
    exact ⟨rfl, HB4.out⟩

end Go.Proofs.Ytklekpkchpnmiaa
