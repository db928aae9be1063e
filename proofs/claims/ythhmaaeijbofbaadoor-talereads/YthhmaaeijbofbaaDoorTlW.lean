/- A world in which the library's variables lie as their initialisers lay them. -/
import Derived.Test.YthhmaaeijbofbaaDoorTlOp
import Derived.Deep.DeepHandedRow
import Derived.Deep.DeepWitnessRowRef
import Derived.Deep.DeepLaidRun
namespace Go.Proofs.YthhmaaeijbofbaaDoor
open Go.ChangeShapes Go.WideShapes Go.ChangeAt Go.RowKit

def cell1 : DataW Unit → Value
  | .lit (.int k z) => .int k z
  | _ => undef
def cells1 : DataW Unit → List Value
  | .agg xs => xs.map cell1
  | _ => []
def cells2 : DataW Unit → List Value
  | .agg xs => xs.flatMap cells1
  | _ => []
def synB : ByteArray := ⟨#[105, 110, 118, 97, 108, 105, 100, 32, 115, 121, 110, 116, 97, 120]⟩
def rngB : ByteArray := ⟨#[118, 97, 108, 117, 101, 32, 111, 117, 116, 32, 111, 102, 32, 114, 97, 110, 103, 101]⟩
def low (P : Program) : Nat := (World.settled P default).heap.size
def putV (h : Array Obj) (g : Nat) (cs : List Value) : Array Obj := h.modify g fun
  | .cells _ t frozen => .cells cs.toArray t frozen
  | o => o
def laidWorld (P : Program) (os : Os) : World :=
  let w0 := World.holding P os ⟨#[.cells #[.string synB] 87, .cells #[.string rngB] 87], #[], []⟩
  let h0 := putV (putV w0.heap 0 [.iface 85 (.pointer (some ⟨low P, 0, none⟩))]) 1 [.iface 85 (.pointer (some ⟨low P + 1, 0, none⟩))]
  let h1 := putV (putV h0 2 (cells1 Rows.laid_internal_strconv_uint64pow10)) 4 (cells1 Rows.laid_unicode_utf8_first)
  let h2 := putV (putV h1 5 (cells2 Rows.laid_unicode_utf8_acceptRanges)) 6 (cells1 Rows.laid_math_bits_deBruijn32tab)
  { w0 with heap := putV h2 7 (cells1 Rows.laid_math_bits_deBruijn64tab) }
theorem laid3 (os : Os) (args : Array Value) : laidMet Tryd.prog Rows.taleOneRow.laid ((laidWorld Tryd.prog os).forCall (fun _ _ => 0) ⟨#[], args, []⟩).memory :=
  laidMet_of_run3 8 (by kernel_rfl) (by kernel_rfl) (by kernel_rfl)
theorem laid7 (os : Os) (args : Array Value) : laidMet Tryd.prog Rows.taleReadsRow.laid ((laidWorld Tryd.prog os).forCall (fun _ _ => 0) ⟨#[], args, []⟩).memory :=
  laidMet_of_run3 8 (by kernel_rfl) (by kernel_rfl) (by kernel_rfl)
theorem own : ownKnob Tryd.prog.godebug = none := by kernel_rfl
theorem laidOut : laidOutB Tryd.prog = true := by kernel_rfl
end Go.Proofs.YthhmaaeijbofbaaDoor
