/- Two links in the midst of a law, ours and the document's, and an act. -/
import Derived.Test.YtoigickgknbbfaeLkO
import Derived.Test.YtoigickgknbbfaeLkR
namespace Go.Proofs.Ytoigickgknbbfae
open Go.RowKit

/-- a block that holds an act -/
def AC (W : World) (c : Nat) (ti sq : Int) : Prop := W.heap[c]? = some (.cells #[.int .i64 ti, .int .i64 sq] 49 (0, 0))
section
variable {W W' : World} {c : Nat} {ti sq : Int}
theorem AC.lt (H : AC W c ti sq) : c < W.heap.size := (Array.getElem?_eq_some_iff.1 H).1
theorem AC.c0 (H : AC W c ti sq) : W.cell? ⟨c, 0, none⟩ = some (.int .i64 ti) := by simp [World.cell?, show W.heap[c]? = _ from H]
theorem AC.c1 (H : AC W c ti sq) : W.cell? ⟨c, 1, none⟩ = some (.int .i64 sq) := by simp [World.cell?, show W.heap[c]? = _ from H]
end

/-- both links -/
structure Lt (w W : World) (b r : Nat) (x y : Lk) : Prop where
  lb : LB W b x
  rl : RL W r y
  bel : Below w.heap.size w W
  lob : w.heap.size ≤ b
  lor : w.heap.size ≤ r
  ne : r ≠ b
/-- both links, and an act -/
structure La (w W : World) (b r c : Nat) (x y : Lk) (ti sq : Int) : Prop where
  lt : Lt w W b r x y
  ac : AC W c ti sq
  nb : c ≠ b
  nr : c ≠ r
section
variable {w W W' : World} {b r c : Nat} {x y x' y' : Lk} {ti sq : Int}
theorem Lt.next (h : Lt w W b r x y) (hb : Below W.heap.size W W') : Lt w W' b r x y := ⟨h.lb.below' hb, h.rl.below' hb, below_class h.bel hb, h.lob, h.lor, h.ne⟩
theorem Lt.ours (h : Lt w W b r x y) (hl : LB W' b x') (k : Kb b W W') : Lt w W' b r x' y := ⟨hl, h.rl.kb k h.ne, k.below h.bel h.bel.size h.lob, h.lob, h.lor, h.ne⟩
theorem Lt.theirs (h : Lt w W b r x y) (hl : RL W' r y') (k : Kb r W W') : Lt w W' b r x y' := ⟨h.lb.kb k h.ne.symm, hl, k.below h.bel h.bel.size h.lor, h.lob, h.lor, h.ne⟩
theorem La.next (h : La w W b r c x y ti sq) (hb : Below W.heap.size W W') : La w W' b r c x y ti sq := ⟨h.lt.next hb, (hb.block c h.ac.lt).trans h.ac, h.nb, h.nr⟩
theorem La.drew (h : La w W b r c x y ti sq) : La w W.drew b r c x y ti sq := h.next (Below.refl _ _).drew
theorem La.drewN (h : La w W b r c x y ti sq) (n : Nat) : La w (W.drewN n) b r c x y ti sq := h.next (below_drewN (Below.refl _ _) n)
theorem La.ours (h : La w W b r c x y ti sq) (hl : LB W' b x') (k : Kb b W W') : La w W' b r c x' y ti sq := ⟨h.lt.ours hl k, (k.block c h.ac.lt h.nb).trans h.ac, h.nb, h.nr⟩
theorem La.theirs (h : La w W b r c x y ti sq) (hl : RL W' r y') (k : Kb r W W') : La w W' b r c x y' ti sq := ⟨h.lt.theirs hl k, (k.block c h.ac.lt h.nr).trans h.ac, h.nb, h.nr⟩
theorem Lt.begin (h : Lt w W b r x y) (ti sq : Int) : La w (W.alloc (.cells #[.int .i64 ti, .int .i64 sq] 49)) b r W.heap.size x y ti sq :=
  ⟨h.next ((Below.refl _ _).alloc (Nat.le_refl _) _), heap_alloc_new W _, by have := h.lb.lt; omega, by have := h.rl.lt; omega⟩
theorem Lt.new (h : Below w.heap.size w W) : Lt w ((W.alloc (.cells #[.bool false, .int .u16 0, .int .i64 0] 66)).alloc (.cells #[.bool false, .int .i64 0, .int .i64 0] 47)) W.heap.size (W.heap.size + 1) LM.z LM.z := by
  have h1 := LB.new W LM.z
  have h2 := RL.new (W.alloc (.cells #[.bool false, .int .u16 0, .int .i64 0] 66)) LM.z
  rw [World.size_alloc] at h2
  have hs := h.size
  exact ⟨h1.below' ((Below.refl _ _).alloc (Nat.le_refl _) _), h2, (h.alloc hs _).alloc (by simp; omega) _, hs, by omega, by omega⟩
end
theorem ixT (W : World) {a : Option Addr} {g o n cap j : Nat} (ha : a = some ⟨g, o, none⟩) (hj : j < n) : (Instr.indexAt 42 (.slice a n cap) (.int .i64 (j : Int))).run Try.prog W = .ok (.pointer (some ⟨g, o + j * 2, none⟩)) W := by
  subst ha
  rw [run_indexAt_slice W 42 _ n cap .i64 j (by kernel_rfl), if_pos ⟨by omega, by omega⟩, show Try.prog.elem 42 = 49 by kernel_rfl, Try.sizeOf49]
  simp only [Result.andThen_ok, Int.toNat_natCast, Addr.add_mid]
/-- a slice of acts that was handed in, as long as nothing old is written -/
def AS (w : World) (a : Option Addr) (len : Nat) : Prop :=
  len = 0 ∨ ∃ b off, a = some ⟨b, off, none⟩ ∧ ∀ w', Below w.heap.size w w' → ∀ i, i < len → ∃ x y, w'.cell? ⟨b, off + i * 2, none⟩ = some (.int .i64 x) ∧ w'.cell? ⟨b, off + i * 2 + 1, none⟩ = some (.int .i64 y)
theorem AS.at {w W : World} {a : Option Addr} {len : Nat} (h : AS w a len) (hb : Below w.heap.size w W) {i : Nat} (hi : i < len) : ∃ b off x y, a = some ⟨b, off, none⟩ ∧ W.cell? ⟨b, off + i * 2, none⟩ = some (.int .i64 x) ∧ W.cell? ⟨b, off + i * 2 + 1, none⟩ = some (.int .i64 y) := by
  rcases h with h | ⟨b, off, ha, h⟩
  · omega
  · obtain ⟨x, y, h0, h1⟩ := h W hb i hi
    exact ⟨b, off, x, y, ha, h0, h1⟩

end Go.Proofs.Ytoigickgknbbfae
