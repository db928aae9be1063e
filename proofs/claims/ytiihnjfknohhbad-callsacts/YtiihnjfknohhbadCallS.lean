/- The document's example of a book. -/
import Derived.Test.YtiihnjfknohhbadCallQ
namespace Go.Proofs.Ytiihnjfknohhbad
open Go.RowKit

def exC : Cl := ⟨2, -1, 9, true⟩
def exD : Cl := ⟨2, -1, 0, true⟩
theorem ex_press (L : List Cl) (hL : L = [] ∨ L = [exD]) (B b : Nat) (v : Value) (w : World) (H : BK w B b 5 1 v 0 L) :
    Calls Try.prog 9 #[.pointer (some ⟨b, 0, none⟩), .agg #[.int .i64 2, .int .i64 (-1), .int .i64 9, .bool true]] w fun e w' => e = .returned (.int .i64 0) ∧ ∃ v', BK w' B b 5 1 v' 0 [exD] ∧ Nx w v v' ∧ Kp (Fp b v) w w' := by
  have h := press_any B b 5 1 v 0 L exC w H (by rcases hL with rfl | rfl <;> simp) (by omega) (by omega)
  have e1 : KM.err 5 1 (FM.hasN 0 exC.fl) L exC = 0 := by rcases hL with rfl | rfl <;> rfl
  have e2 : KM.put 5 1 (FM.hasN 0 exC.fl) L exC = [exD] := by rcases hL with rfl | rfl <;> rfl
  rw [e1, e2] at h
  exact h

/-- what holds in the example: the book, and the call in its own block -/
structure Es (w0 W : World) (b cb : Nat) (v : Value) (L : List Cl) : Prop where
  bk : BK W w0.heap.size b 5 1 v 0 L
  c : CB W cb exC
  bel : Below w0.heap.size w0 W
  lo : w0.heap.size ≤ cb
  ne : ¬ Fp b v cb
section
variable {w0 W W' : World} {b cb : Nat} {v v' : Value} {L L' : List Cl}
theorem Es.next (h : Es w0 W b cb v L) (hb : Below W.heap.size W W') : Es w0 W' b cb v L := ⟨h.bk.below' hb, h.c.below' hb, below_class h.bel hb, h.lo, h.ne⟩
theorem Es.press (h : Es w0 W b cb v L) (hk : BK W' w0.heap.size b 5 1 v' 0 L') (hn : Nx W v v') (kp : Kp (Fp b v) W W') : Es w0 W' b cb v' L' := by
  refine ⟨hk, h.c.kp kp h.ne, kp.below h.bel h.bel.size (fun i hi hF => ?_), h.lo, ?_⟩
  · have := (h.bk.lo i hF).1
    omega
  · rintro (e | e)
    · exact h.ne (.inl e)
    · rcases hn cb e with e | e
      · exact h.ne (.inr e)
      · have := h.c.lt
        omega
theorem Es.all (h : Es w0 W b cb v L) : W.cell? ⟨cb, 0, none⟩ = some (.int .i64 2) ∧ W.cell? ⟨cb, 1, none⟩ = some (.int .i64 (-1)) ∧ W.cell? ⟨cb, 2, none⟩ = some (.int .i64 9) ∧ W.cell? ⟨cb, 3, none⟩ = some (.bool true) := ⟨h.c.c0, h.c.c1, h.c.c2, h.c.c3⟩
end

set_option maxHeartbeats 1000000 in
theorem speaks_any (w : World) : Calls Try.prog 6 #[] w fun e w' => e = .returned (.bool true) ∧ Below w.heap.size w w' := by
  have hq : ∀ w, (Op.equalIn 10000 35 (.agg #[.int .i64 2, .int .i64 (-1), .int .i64 0, .bool true]) (.agg #[.int .i64 2, .int .i64 (-1), .int .i64 0, .bool true])).run Try.prog w = .ok true w := fun w => eqCall w exD exD
  go_enter Try.func6, Try.ntmps6
  go_wp2_with fail
  refine (new_any _ 5 1 rfl rfl _).mono ?_
  rintro e W1 ⟨b, rfl, hb1, hbel, hpb⟩
  have HE : Hid (Es w (W1.alloc (.cells #[.int .i64 2, .int .i64 (-1), .int .i64 9, .bool true] 35)) b W1.heap.size (.slice none 0 0) []) := by
    have h0 : BK W1 w.heap.size b 5 1 (.slice none 0 0) 0 [] := ⟨hpb, RW.nil _ _, by simp [Value.ownBlock], hb1, by omega⟩
    refine ⟨h0.below' ((Below.refl _ _).alloc (Nat.le_refl _) _), CB.new W1 exC, hbel.alloc hbel.size _, hbel.size, ?_⟩
    rintro (e | e)
    · have := hpb.lt
      omega
    · simp [Value.ownBlock] at e
  clear hb1 hbel hpb
  go_wp2_with fail
  generalize W1.heap.size = cb at HE ⊢
  generalize W1.alloc (.cells #[.int .i64 2, .int .i64 (-1), .int .i64 9, .bool true] 35) = W2 at HE ⊢
  have hm := HE.out.next (Below.refl W2.heap.size W2).drew
  go_region_held3 (fun w' => w'.cell? ⟨cb, 0, none⟩ = some (.int .i64 2) ∧ w'.cell? ⟨cb, 1, none⟩ = some (.int .i64 (-1)) ∧ w'.cell? ⟨cb, 2, none⟩ = some (.int .i64 9) ∧ w'.cell? ⟨cb, 3, none⟩ = some (.bool true)) (first | exact Es.all hm | exact Es.all hm3 | exact Es.all hm4) (first | (go_at_call 9; refine (ex_press [] (.inl rfl) _ _ _ _ hm.bk).mono ?_; rintro e W3 ⟨rfl, v3, hk3, hn3, kp3⟩; have hm3 := Es.press hm hk3 hn3 kp3; clear hm) | (go_at_call 9; refine (ex_press [exD] (.inr rfl) _ _ _ _ hm3.bk).mono ?_; rintro e W4 ⟨rfl, v4, hk4, hn4, kp4⟩; have hm4 := Es.press hm3 hk4 hn4 kp4; clear hm3))
  have HE4 := Hid.intro' hm4
  clear hm4 hk3 hn3 kp3 hk4 hn4 kp4 HE
  go_wp2_with fail
  refine (all_any _ _ _ _ _ _ _ _ HE4.out.bk (by simp)).mono ?_
  rintro e W5 ⟨v5, rfl, hr5, hb5⟩
  have HB5 := Hid.intro' (below_class HE4.out.bel hb5)
  rcases hr5.form with ⟨_, h⟩ | ⟨g, cap, rfl, _, _, hcap⟩
  · simp at h
  · obtain ⟨y, hy, c0, c1, c2, c3⟩ := hr5.elem (i := 0) (by simp)
    simp at hy
    subst hy
    have c0' : W5.cell? ⟨g, 0, none⟩ = some (.int .i64 2) := c0
    have c1' : W5.cell? ⟨g, 1, none⟩ = some (.int .i64 (-1)) := c1
    have c2' : W5.cell? ⟨g, 2, none⟩ = some (.int .i64 0) := c2
    have c3' : W5.cell? ⟨g, 3, none⟩ = some (.bool true) := c3
    clear c0 c1 c2 c3 hr5 hb5
    go_wp2
    go_ret
    exact ⟨rfl, HB5.out⟩

end Go.Proofs.Ytiihnjfknohhbad
