/- Serve as the document's answer has it. -/
import Derived.Test.YtiihnjfknohhbadRefS0
import Derived.Test.YtiihnjfknohhbadRefS1
import Derived.Test.YtiihnjfknohhbadRefS2
import Derived.Test.YtiihnjfknohhbadRefS3
namespace Go.Proofs.Ytiihnjfknohhbad
open Go.RowKit

theorem rserve_any (B r : Nat) (F C : Int) (v : Value) (t : Nat) (L : List Cl) (car floor : Int) (u d : Bool) (w : World) (H : RK w B r F C v t L) (hL : L.length ≤ 128) (hca : ∀ c ∈ L, -1 ≤ c.ca) :
    Calls Try.prog 17 #[.pointer (some ⟨r, 0, none⟩), .int .i64 car, .int .i64 floor, .bool u, .bool d] w fun e w' => ∃ vo v', e = .returned vo ∧ RV w' vo (L.filter (KM.srv car floor u d)) ∧
      RK w' B r F C v' t (L.filter fun c => !KM.srv car floor u d c) ∧ Nx w v v' ∧ Kp (Fp r v) w w' := by
  cases u <;> cases d
  · exact rserve_0 B r F C v t L car floor w H hL hca
  · exact rserve_1 B r F C v t L car floor w H hL hca
  · exact rserve_2 B r F C v t L car floor w H hL hca
  · exact rserve_3 B r F C v t L car floor w H hL hca

end Go.Proofs.Ytiihnjfknohhbad
