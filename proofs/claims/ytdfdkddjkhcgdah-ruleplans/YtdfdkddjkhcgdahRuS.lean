/- The example that each law on the rule begins with. -/
import Derived.Test.YtdfdkddjkhcgdahRuL
import Derived.Test.YtdfdkddjkhcgdahRtX
namespace Go.Proofs.Ytdfdkddjkhcgdah
open Go.RowKit Go.Shelf

def exSu : St := ⟨10, 2, 0, 2, 0, 3, 1, 1, 0, 1, 1, 1, 1⟩
def exNu : Sn := ⟨exSu, [(0, 0), (9, 0)], [(8, 3)]⟩
theorem exu_rgt : rgt exNu = true := by decide
theorem exu_rpl : rpl exNu 2 = [[], [0]] := by rfl
theorem R2.lit2 (D : Nat → Prop) (W : World) (b cap : Nat) (y z : Int × Int) (hD : D b) (hl : b < W.heap.size) (hc : 2 ≤ cap) (h1 : W.cell? ⟨b, 0, none⟩ = some (.int .i64 y.1)) (h2 : W.cell? ⟨b, 1, none⟩ = some (.int .i64 y.2)) (h3 : W.cell? ⟨b, 2, none⟩ = some (.int .i64 z.1)) (h4 : W.cell? ⟨b, 3, none⟩ = some (.int .i64 z.2)) : R2 D W (.slice (some ⟨b, 0, none⟩) 2 cap) [y, z] := by
  refine ⟨_, cap, rfl, hc, (fun e => by cases e), .inr ⟨b, 0, rfl, hD, hl, fun i u hu => ?_⟩⟩
  match i, hu with
  | 0, hu => cases hu; exact ⟨h1, h2⟩
  | 1, hu => cases hu; exact ⟨h3, h4⟩
  | i + 2, hu => simp at hu

set_option maxRecDepth 100000 in
set_option maxHeartbeats 4000000 in
theorem speaks14_any (w : World) : Calls Try.prog 20 #[] w fun e w' => e = .returned (.bool true) ∧ Below w.heap.size w w' := by
  go_enter Try.func20, Try.ntmps20
  go_wp2_with fail
  have hX : Below w.heap.size w (((w.alloc (.cells #[.int .i64 0, .int .i64 0, .int .i64 9, .int .i64 0] 40)).alloc (.cells #[.int .i64 8, .int .i64 3] 61)).alloc (.cells (nv exSu (.slice (some ⟨w.heap.size, 0, none⟩) 2 2) (.slice (some ⟨w.heap.size + 1, 0, none⟩) 1 1)).toArray 27)) := (((Below.refl _ w).alloc (Nat.le_refl _) _).alloc (by simp) _).alloc (by simp; omega) _
  have hc : R2 (fun _ => True) (((w.alloc (.cells #[.int .i64 0, .int .i64 0, .int .i64 9, .int .i64 0] 40)).alloc (.cells #[.int .i64 8, .int .i64 3] 61)).alloc (.cells (nv exSu (.slice (some ⟨w.heap.size, 0, none⟩) 2 2) (.slice (some ⟨w.heap.size + 1, 0, none⟩) 1 1)).toArray 27)) (.slice (some ⟨w.heap.size, 0, none⟩) 2 2) exNu.cs := R2.lit2 _ _ _ _ (0, 0) (9, 0) trivial (by simp; omega) (Nat.le_refl _) (by go_simp) (by go_simp) (by go_simp) (by go_simp)
  have hw : R2 (fun _ => True) (((w.alloc (.cells #[.int .i64 0, .int .i64 0, .int .i64 9, .int .i64 0] 40)).alloc (.cells #[.int .i64 8, .int .i64 3] 61)).alloc (.cells (nv exSu (.slice (some ⟨w.heap.size, 0, none⟩) 2 2) (.slice (some ⟨w.heap.size + 1, 0, none⟩) 1 1)).toArray 27)) (.slice (some ⟨w.heap.size + 1, 0, none⟩) 1 1) exNu.ws := R2.lit1 _ _ _ _ (8, 3) trivial (by simp) (Nat.le_refl _) (by go_simp) (by go_simp)
  refine (ruleplan_yes (s := exNu) hc hw exu_rgt).mono ?_
  rintro e W2 ⟨v, rfl, hrl, hb2⟩
  have hrl : RL (fun _ => True) W2 v [[], [0]] := hrl
  obtain ⟨av, kv, rfl, _, _⟩ := hrl.form
  obtain ⟨gp, op, rfl, u0, k0, r0⟩ := hrl.at (i := 0) (l := []) rfl
  obtain ⟨gq, oq, e, u1, k1, r1⟩ := hrl.at (i := 1) (l := [0]) rfl
  cases e
  obtain ⟨a0, c0, rfl, _, _⟩ := r0.form
  obtain ⟨a1, c1, rfl, _, _⟩ := r1.form
  have HB2 := Hid.intro' (below_class hX hb2)
  have x0 : ∀ W, (Instr.indexAt 32 (.slice (some ⟨gp, op, none⟩) 2 kv) (.int .i64 0)).run Try.prog W = .ok (.pointer (some ⟨gp, op, none⟩)) W := fun W => ixP W (a := some ⟨gp, op, none⟩) (g := gp) (o := op) (n := 2) (cap := kv) (j := 0) rfl (by omega)
  have x1 : ∀ W, (Instr.indexAt 32 (.slice (some ⟨gp, op, none⟩) 2 kv) (.int .i64 1)).run Try.prog W = .ok (.pointer (some ⟨gp, op + 1, none⟩)) W := fun W => ixP W (a := some ⟨gp, op, none⟩) (g := gp) (o := op) (n := 2) (cap := kv) (j := 1) rfl (by omega)
  have d0 : W2.cell? ⟨gp, op, none⟩ = some (.slice a0 0 c0) := k0
  have d1 : W2.cell? ⟨gp, op + 1, none⟩ = some (.slice a1 1 c1) := k1
  clear k0 k1
  clear hX hc hw hb2 hrl r0 r1
  go_wp2
  go_ret
  exact ⟨rfl, HB2.out⟩

end Go.Proofs.Ytdfdkddjkhcgdah
