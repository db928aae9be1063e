/- An act in memory. -/
import Derived.Test.YtiihnjfknohhbadCallV
namespace Go.Proofs.Ytiihnjfknohhbad
open Go.RowKit

/-- what an act's block holds -/
def AB (W : World) (b : Nat) (x : Int) (c : Cl) (y : Bool) : Prop := W.heap[b]? = some (.cells #[.int .i64 x, .int .i64 c.fl, .int .i64 c.ca, .int .i64 c.ag, .bool c.up, .bool y] 37 (0, 0))
section
variable {W W' : World} {b : Nat} {x : Int} {c : Cl} {y : Bool}
theorem AB.lt (H : AB W b x c y) : b < W.heap.size := (Array.getElem?_eq_some_iff.1 H).1
theorem AB.c0 (H : AB W b x c y) : W.cell? ⟨b, 0, none⟩ = some (.int .i64 x) := by simp [World.cell?, show W.heap[b]? = _ from H]
theorem AB.c1 (H : AB W b x c y) : W.cell? ⟨b, 1, none⟩ = some (.int .i64 c.fl) := by simp [World.cell?, show W.heap[b]? = _ from H]
theorem AB.c2 (H : AB W b x c y) : W.cell? ⟨b, 2, none⟩ = some (.int .i64 c.ca) := by simp [World.cell?, show W.heap[b]? = _ from H]
theorem AB.c3 (H : AB W b x c y) : W.cell? ⟨b, 3, none⟩ = some (.int .i64 c.ag) := by simp [World.cell?, show W.heap[b]? = _ from H]
theorem AB.c4 (H : AB W b x c y) : W.cell? ⟨b, 4, none⟩ = some (.bool c.up) := by simp [World.cell?, show W.heap[b]? = _ from H]
theorem AB.c5 (H : AB W b x c y) : W.cell? ⟨b, 5, none⟩ = some (.bool y) := by simp [World.cell?, show W.heap[b]? = _ from H]
theorem AB.below' (H : AB W b x c y) (hb : Below W.heap.size W W') : AB W' b x c y := (hb.block b H.lt).trans H
theorem AB.kp {G : Nat → Prop} (H : AB W b x c y) (k : Kp G W W') (hG : ¬ G b) : AB W' b x c y := (k.block b H.lt hG).trans H
end

end Go.Proofs.Ytiihnjfknohhbad
