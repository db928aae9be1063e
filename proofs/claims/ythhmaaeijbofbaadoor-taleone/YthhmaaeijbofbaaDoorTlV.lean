/- What the rows list of the library's variables, as the walks want it. -/
import Derived.Test.YthhmaaeijbofbaaDoorTlW
import Derived.Test.YthhmaaeijbofbaaDoorTlP
import Derived.Stop.LaidErr
import Derived.Lib.LaidTab
import Derived.RowKitTokens
namespace Go.Proofs.YthhmaaeijbofbaaDoor
open Go.RowKit Go.ChangeShapes

theorem pt_of_laid {W : World} (hL : laidMet Tryd.prog Rows.taleReadsRow.laid W) : Pt W :=
  Lib.tabIs_of_head (g := 2) (t := 78) (e := 50) (n := 20) (by kernel_rfl) (by kernel_rfl) Tryd.underlying78 Tryd.underlying50 (by kernel_rfl) (by kernel_rfl) (show laidMet Tryd.prog ((Tryd.nPow, Lib.tabData .u64 Lib.pow10Tab) :: Rows.taleReadsRow.laid.drop 3) W from laidMet.tail (laidMet.tail hL))
/-- the name of the errors' type, as the rows have it -/
def eName : String := match (Rows.laid_strconv_ErrSyntax : DataW Unit) with
  | .iface n _ => n
  | _ => default
theorem Tryd.rowE (u : TypeId) (h : Tryd.prog.typeName? 3 u = some eName) : u = 85 :=
  typeName_ptr_named (nm := "errors.errorString") (by kernel_rfl) (by kernel_rfl) (by decide) u (h.trans (congrArg some (by decide)))
theorem pw_of_laid {W : World} (hL : laidMet Tryd.prog Rows.taleReadsRow.laid W) (hsh : W.ShapedOpen Tryd.prog) : Pw W := by
  have h4 : laidMet Tryd.prog (Rows.taleReadsRow.laid.drop 4) W := laidMet.tail (laidMet.tail (laidMet.tail (laidMet.tail hL)))
  obtain ⟨a1, s1, hv1, _, _, _⟩ := laid_sentinel (n := "strconv.ErrRange") (g := 1) (ti := 42) (tp := 85) (te := 87) (ts := 9) (P := Tryd.prog) (W := W) h4 (by kernel_rfl) (by kernel_rfl) Tryd.underlying42 Tryd.rowE Tryd.underlying85 Tryd.underlying87 rfl rfl Tryd.underlying9 (by kernel_rfl) (by kernel_rfl)
  obtain ⟨a0, s0, hv0, _, _, _⟩ := laid_sentinel (n := "strconv.ErrSyntax") (g := 0) (ti := 42) (tp := 85) (te := 87) (ts := 9) (P := Tryd.prog) (W := W) (laidMet.tail h4) (by kernel_rfl) (by kernel_rfl) Tryd.underlying42 Tryd.rowE Tryd.underlying85 Tryd.underlying87 rfl rfl Tryd.underlying9 (by kernel_rfl) (by kernel_rfl)
  exact ⟨pt_of_laid hL, ⟨_, _, hv0⟩, ⟨_, _, hv1⟩, cell_of_shapedOpen_int (P := Tryd.prog) (g := 3) (t := 3) (zero := #[.int .i64 0]) hsh (of_decide_eq_true (by kernel_rfl)) (by kernel_rfl) rfl (by kernel_rfl) (by kernel_rfl) Tryd.underlying3⟩
end Go.Proofs.YthhmaaeijbofbaaDoor
