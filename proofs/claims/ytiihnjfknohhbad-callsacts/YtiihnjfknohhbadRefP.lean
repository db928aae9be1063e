/- Press as the document's answer has it. -/
import Derived.Test.YtiihnjfknohhbadRefP1
namespace Go.Proofs.Ytiihnjfknohhbad
open Go.RowKit

theorem rpress_any (B r : Nat) (F C : Int) (v : Value) (t : Nat) (L : List Cl) (c : Cl) (w : World) (H : RK w B r F C v t L) (hL : L.length ≤ 128) (f1 : 2 ≤ F) (f2 : F ≤ 64) :
    Calls Try.prog 10 #[.pointer (some ⟨r, 0, none⟩), .agg #[.int .i64 c.fl, .int .i64 c.ca, .int .i64 c.ag, .bool c.up]] w fun e w' => e = .returned (.int .i64 (KM.err F C (FM.hasN t c.fl) L c)) ∧ ∃ v', RK w' B r F C v' t (KM.put F C (FM.hasN t c.fl) L c) ∧ Nx w v v' ∧ Kp (Fp r v) w w' := by
  obtain ⟨cf, ca, cg, cu⟩ := c
  cases cu
  · exact rpress_0 B r F C v t L cf ca cg w H hL f1 f2
  · exact rpress_1 B r F C v t L cf ca cg w H hL f1 f2

end Go.Proofs.Ytiihnjfknohhbad
