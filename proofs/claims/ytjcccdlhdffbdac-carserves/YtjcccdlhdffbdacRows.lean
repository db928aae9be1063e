/-
  No cell of these rows narrows 'for every input' (looked for: loops, veiled, ifaces, maps, wideKeys, modest, calm, conditions, laid).
  DERIVED. THE GIVEN ROWS OF THIS SEAT. 6 by the template 'for every input the law returns true; each argument reads behind the call as it read before'; 0 by the template 'total and deterministic' (their statements: YtjcccdlhdffbdacTotals.lean).
  GIVEN WITH THE SEED: the statements are not yours to turn. If you find one false, say at which input.
  Laid BY PROGRAM, IN A SANDBOX (cutbox-rows.mjs): the forced cells as the released guide's own fill.sh prints them over the translation dea507105aac7f0b… (all of the seat's roots in one cut). By AI agents, Wed Nov 11 2026. No macro, syntax, notation, axiom, sorry.
-/
import Derived.Test.YtjcccdlhdffbdacChecked
import GoSem.Claim
import GoSem.ClaimJoined
import GoSem.ClaimMapViews
import Derived.JoinedTies
import Derived.KernelRfl
namespace Go.Proofs.Ytjcccdlhdffbdac
/- THE CELL 'sum', in the pinned program and in every row, IS THE sha256 OF THE DUMP (.gsa) THAT YtjcccdlhdffbdacProg.lean LOADS. Nothing in Lean hashes anything: it is a label: what it is worth is what the hold of that sum in a sandbox is worth. -/
noncomputable def Try.pinned : Pinned := { name := "ytjcccdlhdffbdac", sum := "dea507105aac7f0b99595707b370ab0dd318150ba304d6f6fcc661b8ab0e4b30", checked := Try.checked }
namespace Rows
def none {H : Type} : Left H := { results := [], args := [] }

/-- 'paternosterlaw04.DoorHeld': WHATEVER THE INPUT: true; the input reads as it did. -/
def doorHeldSpec : ChangeSpec := { name := "doorHeld", fn := fun _ => fun
  | [d1, d2] => { results := [.lit (.bool true)], args := [d1, d2] }
  | _ => none }
def doorHeldRow : OpenClaim := { program := "ytjcccdlhdffbdac", sum := "dea507105aac7f0b99595707b370ab0dd318150ba304d6f6fcc661b8ab0e4b30", func := "paternoster/paternosterlaw04.DoorHeld", spec := "doorHeld", apart := false }
def DoorHeldSaid : Prop := doorHeldRow.holds Try.pinned (OpenSpec.ofChange doorHeldSpec)

/-- ITS FALSE NEIGHBOUR: 'it returns false'. Refute it at one input. -/
def doorHeldWrong : ChangeSpec := { name := "doorHeld", fn := fun _ => fun
  | [d1, d2] => { results := [.lit (.bool false)], args := [d1, d2] }
  | _ => none }
def DoorHeldWrongFalsely : Prop := doorHeldRow.holds Try.pinned (OpenSpec.ofChange doorHeldWrong)

/-- 'paternosterlaw05.CarSteps': WHATEVER THE INPUT: true; the input reads as it did. -/
def carStepsSpec : ChangeSpec := { name := "carSteps", fn := fun _ => fun
  | [d1, d2, d3] => { results := [.lit (.bool true)], args := [d1, d2, d3] }
  | _ => none }
def carStepsRow : OpenClaim := { program := "ytjcccdlhdffbdac", sum := "dea507105aac7f0b99595707b370ab0dd318150ba304d6f6fcc661b8ab0e4b30", func := "paternoster/paternosterlaw05.CarSteps", spec := "carSteps", unfollowed := true, recurses := true, apart := false }
def CarStepsSaid : Prop := carStepsRow.holds Try.pinned (OpenSpec.ofChange carStepsSpec)

/-- ITS FALSE NEIGHBOUR: 'it returns false'. Refute it at one input. -/
def carStepsWrong : ChangeSpec := { name := "carSteps", fn := fun _ => fun
  | [d1, d2, d3] => { results := [.lit (.bool false)], args := [d1, d2, d3] }
  | _ => none }
def CarStepsWrongFalsely : Prop := carStepsRow.holds Try.pinned (OpenSpec.ofChange carStepsWrong)

/-- 'paternosterlaw05.CarSafe': WHATEVER THE INPUT: true; the input reads as it did. -/
def carSafeSpec : ChangeSpec := { name := "carSafe", fn := fun _ => fun
  | [d1, d2, d3] => { results := [.lit (.bool true)], args := [d1, d2, d3] }
  | _ => none }
def carSafeRow : OpenClaim := { program := "ytjcccdlhdffbdac", sum := "dea507105aac7f0b99595707b370ab0dd318150ba304d6f6fcc661b8ab0e4b30", func := "paternoster/paternosterlaw05.CarSafe", spec := "carSafe", unfollowed := true, recurses := true, apart := false }
def CarSafeSaid : Prop := carSafeRow.holds Try.pinned (OpenSpec.ofChange carSafeSpec)

/-- ITS FALSE NEIGHBOUR: 'it returns false'. Refute it at one input. -/
def carSafeWrong : ChangeSpec := { name := "carSafe", fn := fun _ => fun
  | [d1, d2, d3] => { results := [.lit (.bool false)], args := [d1, d2, d3] }
  | _ => none }
def CarSafeWrongFalsely : Prop := carSafeRow.holds Try.pinned (OpenSpec.ofChange carSafeWrong)

/-- 'paternosterlaw05.CarServes': WHATEVER THE INPUT: true; the input reads as it did. -/
def carServesSpec : ChangeSpec := { name := "carServes", fn := fun _ => fun
  | [d1, d2, d3] => { results := [.lit (.bool true)], args := [d1, d2, d3] }
  | _ => none }
def carServesRow : OpenClaim := { program := "ytjcccdlhdffbdac", sum := "dea507105aac7f0b99595707b370ab0dd318150ba304d6f6fcc661b8ab0e4b30", func := "paternoster/paternosterlaw05.CarServes", spec := "carServes", apart := false }
def CarServesSaid : Prop := carServesRow.holds Try.pinned (OpenSpec.ofChange carServesSpec)

/-- ITS FALSE NEIGHBOUR: 'it returns false'. Refute it at one input. -/
def carServesWrong : ChangeSpec := { name := "carServes", fn := fun _ => fun
  | [d1, d2, d3] => { results := [.lit (.bool false)], args := [d1, d2, d3] }
  | _ => none }
def CarServesWrongFalsely : Prop := carServesRow.holds Try.pinned (OpenSpec.ofChange carServesWrong)

/-- 'paternosterlaw05.CarBusy': WHATEVER THE INPUT: true; the input reads as it did. -/
def carBusySpec : ChangeSpec := { name := "carBusy", fn := fun _ => fun
  | [d1, d2, d3, d4, d5] => { results := [.lit (.bool true)], args := [d1, d2, d3, d4, d5] }
  | _ => none }
def carBusyRow : OpenClaim := { program := "ytjcccdlhdffbdac", sum := "dea507105aac7f0b99595707b370ab0dd318150ba304d6f6fcc661b8ab0e4b30", func := "paternoster/paternosterlaw05.CarBusy", spec := "carBusy", apart := false }
def CarBusySaid : Prop := carBusyRow.holds Try.pinned (OpenSpec.ofChange carBusySpec)

/-- ITS FALSE NEIGHBOUR: 'it returns false'. Refute it at one input. -/
def carBusyWrong : ChangeSpec := { name := "carBusy", fn := fun _ => fun
  | [d1, d2, d3, d4, d5] => { results := [.lit (.bool false)], args := [d1, d2, d3, d4, d5] }
  | _ => none }
def CarBusyWrongFalsely : Prop := carBusyRow.holds Try.pinned (OpenSpec.ofChange carBusyWrong)

/-- 'paternosterlaw05.CarRides': WHATEVER THE INPUT: true; the input reads as it did. -/
def carRidesSpec : ChangeSpec := { name := "carRides", fn := fun _ => fun
  | [d1, d2, d3] => { results := [.lit (.bool true)], args := [d1, d2, d3] }
  | _ => none }
def carRidesRow : OpenClaim := { program := "ytjcccdlhdffbdac", sum := "dea507105aac7f0b99595707b370ab0dd318150ba304d6f6fcc661b8ab0e4b30", func := "paternoster/paternosterlaw05.CarRides", spec := "carRides", apart := false }
def CarRidesSaid : Prop := carRidesRow.holds Try.pinned (OpenSpec.ofChange carRidesSpec)

/-- ITS FALSE NEIGHBOUR: 'it returns false'. Refute it at one input. -/
def carRidesWrong : ChangeSpec := { name := "carRides", fn := fun _ => fun
  | [d1, d2, d3] => { results := [.lit (.bool false)], args := [d1, d2, d3] }
  | _ => none }
def CarRidesWrongFalsely : Prop := carRidesRow.holds Try.pinned (OpenSpec.ofChange carRidesWrong)

/- THE SECOND FORM. 'bulk': how many values and letters a reading holds, each counted each time it is reached (what is shared counts as often as it is met; a slice's spare places count too). A statement '..UptoSaid' is the law's where the arguments, and the package variables that the reading takes, are together of bulk at most 1048576: NARROWER than '..Said'. Prove '..Said' where nothing that the law and all that it calls make is longer than what came in: it says more and counts as full. Else prove '..UptoSaid'. A law counts once. -/
mutual
def uptoBulk {H : Type} : DataW H → Nat
  | .lit (.string bytes) => bytes.length + 1
  | .lit _ => 1
  | .nil => 1
  | .ptr d => uptoBulk d + 1
  | .slice elems spare => uptoBulkAll elems + uptoBulkAll spare + 1
  | .agg parts => uptoBulkAll parts + 1
  | .iface _ d => uptoBulk d + 1
  | .map entries => uptoBulkEntries entries + 1
  | .held _ => 1
def uptoBulkAll {H : Type} : List (DataW H) → Nat
  | [] => 0
  | d :: r => uptoBulk d + uptoBulkAll r
def uptoBulkEntries {H : Type} : List (Lit × DataW H) → Nat
  | [] => 0
  | x :: r => uptoBulkEntry x + uptoBulkEntries r
def uptoBulkEntry {H : Type} : Lit × DataW H → Nat
  | (.string bytes, d) => bytes.length + uptoBulk d + 1
  | (_, d) => uptoBulk d + 1
 end
def uptoSmall : (H : Type) → List (DataW H) → Bool := fun _ ds => decide (uptoBulkAll ds ≤ 1048576)
def OpenSpec.upto (s : _root_.Go.ChangeSpec) : _root_.Go.OpenSpec := { _root_.Go.OpenSpec.ofChange s with cond := some uptoSmall }

/-- 'paternosterlaw04.DoorHeld', WHERE WHAT IT READS IS OF BULK AT MOST 1048576: true; the input reads as it did. -/
def doorHeldUptoRow : OpenClaim := { program := "ytjcccdlhdffbdac", sum := "dea507105aac7f0b99595707b370ab0dd318150ba304d6f6fcc661b8ab0e4b30", func := "paternoster/paternosterlaw04.DoorHeld", spec := "doorHeld", apart := false, narrowed := true }
def DoorHeldUptoSaid : Prop := doorHeldUptoRow.holds Try.pinned (OpenSpec.upto doorHeldSpec)

/-- 'paternosterlaw05.CarSteps', WHERE WHAT IT READS IS OF BULK AT MOST 1048576: true; the input reads as it did. -/
def carStepsUptoRow : OpenClaim := { program := "ytjcccdlhdffbdac", sum := "dea507105aac7f0b99595707b370ab0dd318150ba304d6f6fcc661b8ab0e4b30", func := "paternoster/paternosterlaw05.CarSteps", spec := "carSteps", unfollowed := true, recurses := true, apart := false, narrowed := true }
def CarStepsUptoSaid : Prop := carStepsUptoRow.holds Try.pinned (OpenSpec.upto carStepsSpec)

/-- 'paternosterlaw05.CarSafe', WHERE WHAT IT READS IS OF BULK AT MOST 1048576: true; the input reads as it did. -/
def carSafeUptoRow : OpenClaim := { program := "ytjcccdlhdffbdac", sum := "dea507105aac7f0b99595707b370ab0dd318150ba304d6f6fcc661b8ab0e4b30", func := "paternoster/paternosterlaw05.CarSafe", spec := "carSafe", unfollowed := true, recurses := true, apart := false, narrowed := true }
def CarSafeUptoSaid : Prop := carSafeUptoRow.holds Try.pinned (OpenSpec.upto carSafeSpec)

/-- 'paternosterlaw05.CarServes', WHERE WHAT IT READS IS OF BULK AT MOST 1048576: true; the input reads as it did. -/
def carServesUptoRow : OpenClaim := { program := "ytjcccdlhdffbdac", sum := "dea507105aac7f0b99595707b370ab0dd318150ba304d6f6fcc661b8ab0e4b30", func := "paternoster/paternosterlaw05.CarServes", spec := "carServes", apart := false, narrowed := true }
def CarServesUptoSaid : Prop := carServesUptoRow.holds Try.pinned (OpenSpec.upto carServesSpec)

/-- 'paternosterlaw05.CarBusy', WHERE WHAT IT READS IS OF BULK AT MOST 1048576: true; the input reads as it did. -/
def carBusyUptoRow : OpenClaim := { program := "ytjcccdlhdffbdac", sum := "dea507105aac7f0b99595707b370ab0dd318150ba304d6f6fcc661b8ab0e4b30", func := "paternoster/paternosterlaw05.CarBusy", spec := "carBusy", apart := false, narrowed := true }
def CarBusyUptoSaid : Prop := carBusyUptoRow.holds Try.pinned (OpenSpec.upto carBusySpec)

/-- 'paternosterlaw05.CarRides', WHERE WHAT IT READS IS OF BULK AT MOST 1048576: true; the input reads as it did. -/
def carRidesUptoRow : OpenClaim := { program := "ytjcccdlhdffbdac", sum := "dea507105aac7f0b99595707b370ab0dd318150ba304d6f6fcc661b8ab0e4b30", func := "paternoster/paternosterlaw05.CarRides", spec := "carRides", apart := false, narrowed := true }
def CarRidesUptoSaid : Prop := carRidesUptoRow.holds Try.pinned (OpenSpec.upto carRidesSpec)

end Rows
end Go.Proofs.Ytjcccdlhdffbdac
