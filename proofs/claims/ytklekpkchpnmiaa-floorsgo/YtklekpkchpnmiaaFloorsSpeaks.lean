/- The example of the document for sets of floors. -/
import Derived.Test.YtklekpkchpnmiaaFloorsNearest
namespace Go.Proofs.Ytklekpkchpnmiaa
open Go.RowKit Go.Shelf

theorem sp_of : ofN ([3, 7].take 2) = 136 := by decide +kernel
theorem sp_near : nearN 136 5 = (3, true) := by decide +kernel
theorem sp_to : toN 3 = 7 := by decide +kernel

set_option maxRecDepth 100000 in
set_option maxHeartbeats 1000000 in
theorem fspeaks_any (w : World) :
    Calls Try.prog 20 #[] w fun e w' => e = .returned (.bool true) ∧ Below w.heap.size w w' := by
  go_enter Try.func20, Try.ntmps20
  go_wp2_with fail
  have hB : Below w.heap.size w (w.alloc (.cells #[.int .i64 3, .int .i64 7] 3)) := (Below.refl _ _).alloc (Nat.le_refl _) _
  have hc : ∀ i, i < 2 → (w.alloc (.cells #[.int .i64 3, .int .i64 7] 3)).cell? ⟨w.heap.size, 0 + i, none⟩ = some (.int .i64 (([3, 7] : List Int)[i]?.getD 0)) := by
    intro i hi
    rw [World.cell?_alloc_new]
    match i, hi with
    | 0, _ => rfl
    | 1, _ => rfl
  have HB := Hid.intro' hB
  have c1 := Hid.intro' (of_any w.heap.size 0 2 2 [3, 7] _ (by decide) (by decide) hc)
  rw [sp_of] at c1
  clear hB hc
  generalize w.alloc (.cells #[.int .i64 3, .int .i64 7] 3) = W1 at HB c1 ⊢
  refine (c1.out).mono ?_
  rintro e W2 ⟨rfl, rfl⟩
  clear c1
  go_wp2_with fail
  have c2 := nearest_any 136 5 W2 (by decide)
  rw [sp_near] at c2
  refine c2.mono ?_
  rintro e W3 ⟨rfl, hb⟩
  have HB3 : Hid (Below w.heap.size w W3) := HB.out.trans (hb.mono HB.out.size)
  clear c2 hb HB
  go_wp2_with fail
  have c3 := to_any 3 W3
  rw [sp_to] at c3
  refine c3.mono ?_
  rintro e W4 ⟨rfl, rfl⟩
  clear c3
  go_wp2
  go_ret
  exact ⟨rfl, HB3.out⟩

end Go.Proofs.Ytklekpkchpnmiaa
