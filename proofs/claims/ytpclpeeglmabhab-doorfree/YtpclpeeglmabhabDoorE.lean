/- A block of four ints; a door that nobody holds. -/
import Derived.Test.YtpclpeeglmabhabDoorL
namespace Go.Proofs.Ytpclpeeglmabhab
open Go.RowKit

/-- a block of four ints -/
def EB (W : World) (b : Nat) (x y z u : Int) : Prop := W.heap[b]? = some (.cells #[.int .i64 x, .int .i64 y, .int .i64 z, .int .i64 u] 43 (0, 0))
section
variable {W W' : World} {b : Nat} {x y z u : Int}
theorem EB.lt (H : EB W b x y z u) : b < W.heap.size := (Array.getElem?_eq_some_iff.1 H).1
theorem EB.c0 (H : EB W b x y z u) : W.cell? ⟨b, 0, none⟩ = some (.int .i64 x) := by simp [World.cell?, show W.heap[b]? = _ from H]
theorem EB.c1 (H : EB W b x y z u) : W.cell? ⟨b, 1, none⟩ = some (.int .i64 y) := by simp [World.cell?, show W.heap[b]? = _ from H]
theorem EB.c2 (H : EB W b x y z u) : W.cell? ⟨b, 2, none⟩ = some (.int .i64 z) := by simp [World.cell?, show W.heap[b]? = _ from H]
theorem EB.c3 (H : EB W b x y z u) : W.cell? ⟨b, 3, none⟩ = some (.int .i64 u) := by simp [World.cell?, show W.heap[b]? = _ from H]
theorem EB.fr (H : EB W b x y z u) (i : Nat) : W.frozen? ⟨b, i, none⟩ = false := by simp [World.frozen?, show W.heap[b]? = _ from H]
theorem EB.below' (H : EB W b x y z u) (hb : Below W.heap.size W W') : EB W' b x y z u := (hb.block b H.lt).trans H
theorem EB.new' (W : World) (x y z u : Int) {n : Nat} (hn : W.heap.size = n) : EB (W.alloc (.cells #[.int .i64 x, .int .i64 y, .int .i64 z, .int .i64 u] 43)) n x y z u := hn ▸ World.alloc_heap_new W _
theorem EB.s1 (H : EB W b x y z u) (v : Int) : EB (W.setCell ⟨b, 1, none⟩ (.int .i64 v)) b x v z u := heap_setCell_same W b 1 _ _ _ H
theorem EB.s2 (H : EB W b x y z u) (v : Int) : EB (W.setCell ⟨b, 2, none⟩ (.int .i64 v)) b x y v u := heap_setCell_same W b 2 _ _ _ H
theorem EB.s3 (H : EB W b x y z u) (v : Int) : EB (W.setCell ⟨b, 3, none⟩ (.int .i64 v)) b x y z v := heap_setCell_same W b 3 _ _ _ H
theorem Upd.eb {c : Nat} (hu : Upd c W W') (he : EB W b x y z u) (hne : b ≠ c) : EB W' b x y z u := by obtain ⟨cs, rfl⟩ := hu; exact (setRow_other W c b cs hne).trans he
end

theorem eqE (x y z u : Int) (w : World) : (Op.equalIn 10000 43 (.agg #[.int .i64 x, .int .i64 y, .int .i64 z, .int .i64 u]) (.agg #[.int .i64 x, .int .i64 y, .int .i64 z, .int .i64 u])).run Try.prog w = .ok true w := by
  have u3 := Try.underlying3
  have a3 := Try.isAgg3
  have z3 := Try.sizeOf3
  rw [show (10000 : Nat) = 9999 + 1 from rfl, Op.equalIn]
  simp only [Sem.run_bind, run_underlying Try.underlying43, Result.andThen_ok]
  simp only [Std.Legacy.Range.forIn_eq_forIn_range', Std.Legacy.Range.size, Nat.sub_zero, Nat.add_sub_cancel, Nat.div_one, List.range'_succ, List.range'_zero, List.forIn_cons, List.forIn_nil]
  go_simp
theorem rem_mod (k n : Nat) (_h : 0 < n) : ((k : Int)).tmod (n : Int) = ((k % n : Nat) : Int) := by
  rw [← Int.ofNat_tmod]

/-- a door that nobody holds: where it stands, and how many ticks it was where -/
def Fr (s : St) (d : Dr) (k x y z : Int) : Prop :=
  (d = ⟨1, s.opn - x, 0, false⟩ ∧ 0 ≤ x ∧ x < s.opn ∧ y = 0 ∧ z = 0 ∧ k = x) ∨
  (d = ⟨2, s.wai - y, 0, false⟩ ∧ x = s.opn ∧ 0 ≤ y ∧ y < s.wai ∧ z = 0 ∧ k = s.opn + y) ∨
  (d = ⟨3, s.clo - z, 0, false⟩ ∧ x = s.opn ∧ y = s.wai ∧ 0 ≤ z ∧ z < s.clo ∧ k = s.opn + s.wai + z) ∨
  (d = DM.z ∧ x = s.opn ∧ y = s.wai ∧ z = s.clo ∧ k = s.opn + s.wai + s.clo)
theorem free_step (s : St) {p l : Int} (hp : p ≠ 0) (o : Bool) : DM.step s ⟨p, l, 0, false⟩ o false = DM.ps s ⟨p, l, 0, false⟩ := by
  unfold DM.step
  rw [if_neg hp]
  simp [DM.hd, DM.on]
theorem fr1 {s : St} (R : SM.Rt s) {x : Int} (h0 : 0 ≤ x) (h1 : x < s.opn) : Fr s (DM.ps s ⟨1, s.opn - x, 0, false⟩) (x + 1) (x + 1) 0 0 := by
  unfold DM.ps
  by_cases h : 1 < s.opn - x
  · rw [if_pos h]; left; exact ⟨by simp; omega, by omega, by omega, rfl, rfl, rfl⟩
  · rw [if_neg h, if_pos rfl]; right; left
    have := R.wai1
    exact ⟨by simp [DM.en, DM.tk], by omega, by omega, by omega, rfl, by omega⟩
theorem fr2 {s : St} (R : SM.Rt s) {y : Int} (h0 : 0 ≤ y) (h1 : y < s.wai) : Fr s (DM.ps s ⟨2, s.wai - y, 0, false⟩) (s.opn + y + 1) s.opn (y + 1) 0 := by
  unfold DM.ps
  by_cases h : 1 < s.wai - y
  · rw [if_pos h]; right; left; exact ⟨by simp; omega, rfl, by omega, by omega, rfl, by omega⟩
  · rw [if_neg h, if_neg (by simp), if_pos rfl]; right; right; left
    have := R.clo1
    exact ⟨by simp [DM.en, DM.tk], rfl, by omega, by omega, by omega, by omega⟩
theorem fr3 {s : St} {z : Int} (h0 : 0 ≤ z) (h1 : z < s.clo) : Fr s (DM.ps s ⟨3, s.clo - z, 0, false⟩) (s.opn + s.wai + z + 1) s.opn s.wai (z + 1) := by
  unfold DM.ps
  by_cases h : 1 < s.clo - z
  · rw [if_pos h]; right; right; left; exact ⟨by simp; omega, rfl, rfl, by omega, by omega, by omega⟩
  · rw [if_neg h, if_neg (by simp), if_neg (by simp)]; right; right; right
    exact ⟨rfl, rfl, rfl, by omega, by omega⟩

end Go.Proofs.Ytpclpeeglmabhab
