/- Two books in the midst of a law: ours and the document's. -/
import Derived.Test.YtiihnjfknohhbadRefB
import Derived.Test.YtiihnjfknohhbadAct
namespace Go.Proofs.Ytiihnjfknohhbad
open Go.RowKit

namespace KM
/-- is it a call up from a hall at a floor? down? in a car? -/
def qu (f : Nat) (z : Cl) : Bool := (z.fl == (f : Int) && decide (z.ca < 0)) && z.up
def qd (f : Nat) (z : Cl) : Bool := (z.fl == (f : Int) && decide (z.ca < 0)) && !z.up
def qi (f : Nat) (n : Int) (z : Cl) : Bool := (z.fl == (f : Int) && decide (0 ≤ z.ca)) && z.ca == n
end KM
theorem any_take {L : List Cl} {j : Nat} {y : Cl} (q : Cl → Bool) (h : L[j]? = some y) : (L.take (j + 1)).any q = ((L.take j).any q || q y) := by
  rw [take_get h, List.any_append]; simp
theorem any_congr {L : List Cl} {p q : Cl → Bool} (h : ∀ x ∈ L, p x = q x) : L.any p = L.any q := by
  induction L with
  | nil => rfl
  | cons a r ih => rw [List.any_cons, List.any_cons, h a (by simp), ih fun x hx => h x (by simp [hx])]
theorem qu_lamp {L : List Cl} (hr : ∀ c ∈ L, -1 ≤ c.ca) (f : Nat) : (L.any fun c => KM.isU c && decide (c.fl = (f : Int))) = L.any (KM.qu f) := by
  apply any_congr
  intro x hx
  have := hr x hx
  unfold KM.isU KM.qu
  by_cases h1 : x.fl = (f : Int) <;> by_cases h2 : x.ca = -1
  · have h3 : decide (x.ca < 0) = true := by simp; omega
    simp [h1, h2]
  · have h3 : decide (x.ca < 0) = false := by simp; omega
    simp [h2, h3]
  · simp [h1]
  · simp [h1]
theorem qd_lamp {L : List Cl} (hr : ∀ c ∈ L, -1 ≤ c.ca) (f : Nat) : (L.any fun c => KM.isD c && decide (c.fl = (f : Int))) = L.any (KM.qd f) := by
  apply any_congr
  intro x hx
  have := hr x hx
  unfold KM.isD KM.qd
  by_cases h1 : x.fl = (f : Int) <;> by_cases h2 : x.ca = -1
  · simp [h1, h2]
  · have h3 : decide (x.ca < 0) = false := by simp; omega
    simp [h2, h3]
  · simp [h1]
  · simp [h1]
theorem qi_lamp {L : List Cl} (hr : ∀ c ∈ L, -1 ≤ c.ca) (n : Int) (f : Nat) : (L.any fun c => KM.isI n c && decide (c.fl = (f : Int))) = L.any (KM.qi f n) := by
  apply any_congr
  intro x hx
  have := hr x hx
  unfold KM.isI KM.qi
  by_cases h1 : x.fl = (f : Int) <;> by_cases h2 : x.ca = -1
  · have h3 : decide (0 ≤ x.ca) = false := by simp; omega
    simp [h2]
  · have h3 : decide (0 ≤ x.ca) = true := by simp; omega
    simp [h1, h2, h3]
    rfl
  · simp [h1]
  · simp [h1]

/-- both books hold the same calls, and bar the same floors; nothing of the one is of the other -/
structure Tb (w W : World) (b r : Nat) (F C : Int) (v u : Value) (t : Nat) (L : List Cl) : Prop where
  bk : BK W w.heap.size b F C v t L
  rk : RK W w.heap.size r F C u t L
  ap : ∀ i, Fp b v i → ¬ Fp r u i
  bel : Below w.heap.size w W
section
variable {w W W' : World} {b r : Nat} {F C : Int} {v v' u u' : Value} {t t' : Nat} {L L' : List Cl}
theorem Tb.next (h : Tb w W b r F C v u t L) (hb : Below W.heap.size W W') : Tb w W' b r F C v u t L := ⟨h.bk.below' hb, h.rk.below' hb, h.ap, below_class h.bel hb⟩
end
/-- ours has gone on, the document's not yet -/
structure Th (w W : World) (b r : Nat) (F C : Int) (v u : Value) (t t' : Nat) (L L' : List Cl) : Prop where
  bk : BK W w.heap.size b F C v t' L'
  rk : RK W w.heap.size r F C u t L
  ap : ∀ i, Fp b v i → ¬ Fp r u i
  bel : Below w.heap.size w W
section
variable {w W W' : World} {b r : Nat} {F C : Int} {v v' u u' : Value} {t t' : Nat} {L L' : List Cl}
theorem Th.next (h : Th w W b r F C v u t t' L L') (hb : Below W.heap.size W W') : Th w W' b r F C v u t t' L L' := ⟨h.bk.below' hb, h.rk.below' hb, h.ap, below_class h.bel hb⟩
theorem Tb.ours (h : Tb w W b r F C v u t L) (hk : BK W' w.heap.size b F C v' t' L') (hn : Nx W v v') (kp : Kp (Fp b v) W W') : Th w W' b r F C v' u t t' L L' := by
  refine ⟨hk, h.rk.kp kp (fun i hi hF => h.ap i hF hi), ?_, kp.below h.bel h.bel.size (fun i hi hF => ?_)⟩
  · rintro i (hi | hi) hr
    · exact h.ap i (.inl hi) hr
    · rcases hn i hi with hi | hi
      · exact h.ap i (.inr hi) hr
      · have := (h.rk.lo i hr).2
        omega
  · have := (h.bk.lo i hF).1
    omega
theorem Th.theirs (h : Th w W b r F C v u t t' L L') (hk : RK W' w.heap.size r F C u' t' L') (hn : Nx W u u') (kp : Kp (Fp r u) W W') : Tb w W' b r F C v u' t' L' := by
  refine ⟨h.bk.kp kp (fun i hi hF => h.ap i hi hF), hk, ?_, kp.below h.bel h.bel.size (fun i hi hF => ?_)⟩
  · rintro i hb (hi | hi)
    · exact h.ap i hb (.inl hi)
    · rcases hn i hi with hi | hi
      · exact h.ap i hb (.inr hi)
      · have := (h.bk.lo i hb).2
        omega
  · have := (h.rk.lo i hF).1
    omega
end

/-- the cells of a new book of the document's -/
def rb0 (s : St) : Array Value := (sv s ++ (Value.slice none 0 0 :: List.replicate 64 (Value.bool false))).toArray
theorem rb0_rb {W : World} {r : Nat} {s : St} (h : W.heap[r]? = some (.cells (rb0 s) 33 (0, 0))) : RB W r s.fl s.ca (.slice none 0 0) 0 := by
  refine ⟨rb0 s, h, by simp [rb0, sv], by simp [rb0, sv], by simp [rb0, sv], by simp [rb0, sv], fun f hf => ?_⟩
  have e : (rb0 s)[14 + f]? = (List.replicate 64 (Value.bool false))[f]? := by
    unfold rb0
    rw [List.getElem?_toArray, List.getElem?_append_right (by rw [sv_length]; omega), sv_length, show 14 + f - 13 = f + 1 by omega, List.getElem?_cons_succ]
  rw [e, List.getElem?_replicate, if_pos hf]; simp

theorem tb1 {w W2 W8 : World} {s : St} {b : Nat} (h0 : Below w.heap.size w W2) (hb8 : Below W2.heap.size W2 W8) (hbn : W2.heap.size ≤ b) (hpb : PB W8 b s.fl s.ca (.slice none 0 0) 0) :
    Tb w (W8.alloc (.cells (rb0 s) 33)) b W8.heap.size s.fl s.ca (.slice none 0 0) (.slice none 0 0) 0 [] := by
  have h1 := below_class h0 hb8
  refine ⟨⟨hpb.alloc _, RW.nil _ _, by simp [Value.ownBlock], Nat.le_trans h0.size hbn, by omega⟩, ⟨rb0_rb (heap_alloc_new W8 _), RW.nil _ _, by simp [Value.ownBlock], h1.size⟩, ?_, h1.alloc h1.size _⟩
  rintro i (h | h) (h' | h')
  · have := hpb.lt
    omega
  · simp [Value.ownBlock] at h'
  · simp [Value.ownBlock] at h
  · simp [Value.ownBlock] at h
theorem tb2 {w W2 W8 : World} {s : St} {b : Nat} (h0 : Below w.heap.size w W2) (hb8 : Below (W2.alloc (.cells (rb0 s) 33)).heap.size (W2.alloc (.cells (rb0 s) 33)) W8) (hbn : (W2.alloc (.cells (rb0 s) 33)).heap.size ≤ b) (hpb : PB W8 b s.fl s.ca (.slice none 0 0) 0) :
    Tb w W8 b W2.heap.size s.fl s.ca (.slice none 0 0) (.slice none 0 0) 0 [] := by
  rw [World.size_alloc] at hbn
  have hlt : W2.heap.size < (W2.alloc (.cells (rb0 s) 33)).heap.size := by rw [World.size_alloc]; omega
  have h1 := below_class (h0.alloc h0.size (.cells (rb0 s) 33)) hb8
  have hs := h0.size
  refine ⟨⟨hpb, RW.nil _ _, by simp [Value.ownBlock], by omega, by omega⟩, ⟨rb0_rb ((hb8.block _ hlt).trans (heap_alloc_new W2 _)), RW.nil _ _, by simp [Value.ownBlock], hs⟩, ?_, h1⟩
  rintro i (h | h) (h' | h')
  · omega
  · simp [Value.ownBlock] at h'
  · simp [Value.ownBlock] at h
  · simp [Value.ownBlock] at h

/-- both books, an act, and its call in a block of its own -/
structure Ta (w W : World) (b r : Nat) (F C : Int) (v u : Value) (t t' : Nat) (L L' : List Cl) (ab cb : Nat) (x : Int) (c : Cl) (y : Bool) : Prop where
  th : Th w W b r F C v u t t' L L'
  ac : AB W ab x c y
  cl : CB W cb c
  ob : ∀ i, Fp b v i → i ≠ ab ∧ i ≠ cb
  or : ∀ i, Fp r u i → i ≠ ab ∧ i ≠ cb
section
variable {w W W' : World} {b r : Nat} {F C : Int} {v v' u u' : Value} {t t' t'' : Nat} {L L' L'' : List Cl} {ab cb : Nat} {x : Int} {c : Cl} {y : Bool}
theorem Tb.th (h : Tb w W b r F C v u t L) : Th w W b r F C v u t t L L := ⟨h.bk, h.rk, h.ap, h.bel⟩
theorem Th.tb (h : Th w W b r F C v u t t L L) : Tb w W b r F C v u t L := ⟨h.bk, h.rk, h.ap, h.bel⟩
theorem Ta.next (h : Ta w W b r F C v u t t' L L' ab cb x c y) (hb : Below W.heap.size W W') : Ta w W' b r F C v u t t' L L' ab cb x c y := ⟨h.th.next hb, h.ac.below' hb, h.cl.below' hb, h.ob, h.or⟩
theorem Ta.drew (h : Ta w W b r F C v u t t' L L' ab cb x c y) : Ta w W.drew b r F C v u t t' L L' ab cb x c y := h.next (Below.refl _ _).drew
theorem Ta.drewN (h : Ta w W b r F C v u t t' L L' ab cb x c y) (n : Nat) : Ta w (W.drewN n) b r F C v u t t' L L' ab cb x c y := h.next (below_drewN (Below.refl _ _) n)
theorem Ta.ours (h : Ta w W b r F C v u t t L L ab cb x c y) (hk : BK W' w.heap.size b F C v' t' L') (hn : Nx W v v') (kp : Kp (Fp b v) W W') : Ta w W' b r F C v' u t t' L L' ab cb x c y := by
  refine ⟨h.th.tb.ours hk hn kp, h.ac.kp kp (fun e => (h.ob _ e).1 rfl), h.cl.kp kp (fun e => (h.ob _ e).2 rfl), ?_, h.or⟩
  rintro i (hi | hi)
  · exact h.ob i (.inl hi)
  · rcases hn i hi with hi | hi
    · exact h.ob i (.inr hi)
    · have := h.ac.lt
      have := h.cl.lt
      omega
theorem Ta.theirs (h : Ta w W b r F C v u t t' L L' ab cb x c y) (hk : RK W' w.heap.size r F C u' t' L') (hn : Nx W u u') (kp : Kp (Fp r u) W W') : Ta w W' b r F C v u' t' t' L' L' ab cb x c y := by
  refine ⟨(h.th.theirs hk hn kp).th, h.ac.kp kp (fun e => (h.or _ e).1 rfl), h.cl.kp kp (fun e => (h.or _ e).2 rfl), h.ob, ?_⟩
  rintro i (hi | hi)
  · exact h.or i (.inl hi)
  · rcases hn i hi with hi | hi
    · exact h.or i (.inr hi)
    · have := h.ac.lt
      have := h.cl.lt
      omega
theorem Ta.all (h : Ta w W b r F C v u t t' L L' ab cb x c y) : W.cell? ⟨cb, 0, none⟩ = some (.int .i64 c.fl) ∧ W.cell? ⟨cb, 1, none⟩ = some (.int .i64 c.ca) ∧ W.cell? ⟨cb, 2, none⟩ = some (.int .i64 c.ag) ∧ W.cell? ⟨cb, 3, none⟩ = some (.bool c.up) ∧ W.cell? ⟨ab, 5, none⟩ = some (.bool y) := ⟨h.cl.c0, h.cl.c1, h.cl.c2, h.cl.c3, h.ac.c5⟩
theorem Tb.begin (h : Tb w W b r F C v u t L) (x : Int) (c : Cl) (y : Bool) :
    Ta w ((W.alloc (.cells #[.int .i64 x, .int .i64 c.fl, .int .i64 c.ca, .int .i64 c.ag, .bool c.up, .bool y] 37)).alloc (.cells #[.int .i64 c.fl, .int .i64 c.ca, .int .i64 c.ag, .bool c.up] 35)) b r F C v u t t L L W.heap.size (W.heap.size + 1) x c y := by
  have h1 : Below W.heap.size W (W.alloc (.cells #[.int .i64 x, .int .i64 c.fl, .int .i64 c.ca, .int .i64 c.ag, .bool c.up, .bool y] 37)) := (Below.refl _ _).alloc (Nat.le_refl _) _
  have hA : AB (W.alloc (.cells #[.int .i64 x, .int .i64 c.fl, .int .i64 c.ca, .int .i64 c.ag, .bool c.up, .bool y] 37)) W.heap.size x c y := heap_alloc_new W _
  have hC := CB.new (W.alloc (.cells #[.int .i64 x, .int .i64 c.fl, .int .i64 c.ca, .int .i64 c.ag, .bool c.up, .bool y] 37)) c
  rw [World.size_alloc] at hC
  have h2 := (Below.refl (W.alloc (.cells #[.int .i64 x, .int .i64 c.fl, .int .i64 c.ca, .int .i64 c.ag, .bool c.up, .bool y] 37)).heap.size (W.alloc (.cells #[.int .i64 x, .int .i64 c.fl, .int .i64 c.ca, .int .i64 c.ag, .bool c.up, .bool y] 37))).alloc (Nat.le_refl _) (.cells #[.int .i64 c.fl, .int .i64 c.ca, .int .i64 c.ag, .bool c.up] 35)
  refine ⟨((h.next h1).next h2).th, hA.below' h2, hC, fun i hi => ?_, fun i hi => ?_⟩
  · have := (h.bk.lo i hi).2
    omega
  · have := (h.rk.lo i hi).2
    omega
end

end Go.Proofs.Ytiihnjfknohhbad
