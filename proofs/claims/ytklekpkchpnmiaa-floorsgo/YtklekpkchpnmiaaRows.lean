/-
  No cell of these rows narrows 'for every input' (looked for: loops, veiled, ifaces, maps, wideKeys, modest, calm, conditions, laid).
  DERIVED. THE GIVEN ROWS OF THIS SEAT. 6 by the template 'for every input the law returns true; each argument reads behind the call as it read before'; 0 by the template 'total and deterministic' (their statements: YtklekpkchpnmiaaTotals.lean).
  GIVEN WITH THE SEED: the statements are not yours to turn. If you find one false, say at which input.
  Laid BY PROGRAM, IN A SANDBOX (cutbox-rows.mjs): the forced cells as the released guide's own fill.sh prints them over the translation 1aabbac688379521… (all of the seat's roots in one cut). By AI agents, Wed Nov 11 2026. No macro, syntax, notation, axiom, sorry.
-/
import Derived.Test.YtklekpkchpnmiaaChecked
import GoSem.Claim
import GoSem.ClaimJoined
import GoSem.ClaimMapViews
import Derived.JoinedTies
import Derived.KernelRfl
namespace Go.Proofs.Ytklekpkchpnmiaa
/- THE CELL 'sum', in the pinned program and in every row, IS THE sha256 OF THE DUMP (.gsa) THAT YtklekpkchpnmiaaProg.lean LOADS. Nothing in Lean hashes anything: it is a label: what it is worth is what the hold of that sum in a sandbox is worth. -/
noncomputable def Try.pinned : Pinned := { name := "ytklekpkchpnmiaa", sum := "1aabbac68837952107cdc75d64f1ce671f7427a77494a61e800824f322cfc7e6", checked := Try.checked }
namespace Rows
def none {H : Type} : Left H := { results := [], args := [] }

/-- 'paternosterlaw01.NumTold': WHATEVER THE INPUT: true; the input reads as it did. -/
def numToldSpec : ChangeSpec := { name := "numTold", fn := fun _ => fun
  | [d1, d2, d3] => { results := [.lit (.bool true)], args := [d1, d2, d3] }
  | _ => none }
def numToldRow : OpenClaim := { program := "ytklekpkchpnmiaa", sum := "1aabbac68837952107cdc75d64f1ce671f7427a77494a61e800824f322cfc7e6", func := "paternoster/paternosterlaw01.NumTold", spec := "numTold", apart := false }
def NumToldSaid : Prop := numToldRow.holds Try.pinned (OpenSpec.ofChange numToldSpec)

/-- ITS FALSE NEIGHBOUR: 'it returns false'. Refute it at one input. -/
def numToldWrong : ChangeSpec := { name := "numTold", fn := fun _ => fun
  | [d1, d2, d3] => { results := [.lit (.bool false)], args := [d1, d2, d3] }
  | _ => none }
def NumToldWrongFalsely : Prop := numToldRow.holds Try.pinned (OpenSpec.ofChange numToldWrong)

/-- 'paternosterlaw01.NumOrder': WHATEVER THE INPUT: true; the input reads as it did. -/
def numOrderSpec : ChangeSpec := { name := "numOrder", fn := fun _ => fun
  | [d1, d2, d3] => { results := [.lit (.bool true)], args := [d1, d2, d3] }
  | _ => none }
def numOrderRow : OpenClaim := { program := "ytklekpkchpnmiaa", sum := "1aabbac68837952107cdc75d64f1ce671f7427a77494a61e800824f322cfc7e6", func := "paternoster/paternosterlaw01.NumOrder", spec := "numOrder", apart := false }
def NumOrderSaid : Prop := numOrderRow.holds Try.pinned (OpenSpec.ofChange numOrderSpec)

/-- ITS FALSE NEIGHBOUR: 'it returns false'. Refute it at one input. -/
def numOrderWrong : ChangeSpec := { name := "numOrder", fn := fun _ => fun
  | [d1, d2, d3] => { results := [.lit (.bool false)], args := [d1, d2, d3] }
  | _ => none }
def NumOrderWrongFalsely : Prop := numOrderRow.holds Try.pinned (OpenSpec.ofChange numOrderWrong)

/-- 'paternosterlaw01.NumWithin': WHATEVER THE INPUT: true; the input reads as it did. -/
def numWithinSpec : ChangeSpec := { name := "numWithin", fn := fun _ => fun
  | [d1, d2, d3] => { results := [.lit (.bool true)], args := [d1, d2, d3] }
  | _ => none }
def numWithinRow : OpenClaim := { program := "ytklekpkchpnmiaa", sum := "1aabbac68837952107cdc75d64f1ce671f7427a77494a61e800824f322cfc7e6", func := "paternoster/paternosterlaw01.NumWithin", spec := "numWithin", unfollowed := true, recurses := true, apart := false }
def NumWithinSaid : Prop := numWithinRow.holds Try.pinned (OpenSpec.ofChange numWithinSpec)

/-- ITS FALSE NEIGHBOUR: 'it returns false'. Refute it at one input. -/
def numWithinWrong : ChangeSpec := { name := "numWithin", fn := fun _ => fun
  | [d1, d2, d3] => { results := [.lit (.bool false)], args := [d1, d2, d3] }
  | _ => none }
def NumWithinWrongFalsely : Prop := numWithinRow.holds Try.pinned (OpenSpec.ofChange numWithinWrong)

/-- 'paternosterlaw02.FloorsTold': WHATEVER THE INPUT: true; the input reads as it did. -/
def floorsToldSpec : ChangeSpec := { name := "floorsTold", fn := fun _ => fun
  | [d1, d2, d3] => { results := [.lit (.bool true)], args := [d1, d2, d3] }
  | _ => none }
def floorsToldRow : OpenClaim := { program := "ytklekpkchpnmiaa", sum := "1aabbac68837952107cdc75d64f1ce671f7427a77494a61e800824f322cfc7e6", func := "paternoster/paternosterlaw02.FloorsTold", spec := "floorsTold", unfollowed := true, recurses := true, apart := false }
def FloorsToldSaid : Prop := floorsToldRow.holds Try.pinned (OpenSpec.ofChange floorsToldSpec)

/-- ITS FALSE NEIGHBOUR: 'it returns false'. Refute it at one input. -/
def floorsToldWrong : ChangeSpec := { name := "floorsTold", fn := fun _ => fun
  | [d1, d2, d3] => { results := [.lit (.bool false)], args := [d1, d2, d3] }
  | _ => none }
def FloorsToldWrongFalsely : Prop := floorsToldRow.holds Try.pinned (OpenSpec.ofChange floorsToldWrong)

/-- 'paternosterlaw02.FloorsGo': WHATEVER THE INPUT: true; the input reads as it did. -/
def floorsGoSpec : ChangeSpec := { name := "floorsGo", fn := fun _ => fun
  | [d1, d2, d3] => { results := [.lit (.bool true)], args := [d1, d2, d3] }
  | _ => none }
def floorsGoRow : OpenClaim := { program := "ytklekpkchpnmiaa", sum := "1aabbac68837952107cdc75d64f1ce671f7427a77494a61e800824f322cfc7e6", func := "paternoster/paternosterlaw02.FloorsGo", spec := "floorsGo", unfollowed := true, recurses := true, apart := false }
def FloorsGoSaid : Prop := floorsGoRow.holds Try.pinned (OpenSpec.ofChange floorsGoSpec)

/-- ITS FALSE NEIGHBOUR: 'it returns false'. Refute it at one input. -/
def floorsGoWrong : ChangeSpec := { name := "floorsGo", fn := fun _ => fun
  | [d1, d2, d3] => { results := [.lit (.bool false)], args := [d1, d2, d3] }
  | _ => none }
def FloorsGoWrongFalsely : Prop := floorsGoRow.holds Try.pinned (OpenSpec.ofChange floorsGoWrong)

/-- 'paternosterlaw02.FloorsBoth': WHATEVER THE INPUT: true; the input reads as it did. -/
def floorsBothSpec : ChangeSpec := { name := "floorsBoth", fn := fun _ => fun
  | [d1, d2] => { results := [.lit (.bool true)], args := [d1, d2] }
  | _ => none }
def floorsBothRow : OpenClaim := { program := "ytklekpkchpnmiaa", sum := "1aabbac68837952107cdc75d64f1ce671f7427a77494a61e800824f322cfc7e6", func := "paternoster/paternosterlaw02.FloorsBoth", spec := "floorsBoth", unfollowed := true, recurses := true, apart := false }
def FloorsBothSaid : Prop := floorsBothRow.holds Try.pinned (OpenSpec.ofChange floorsBothSpec)

/-- ITS FALSE NEIGHBOUR: 'it returns false'. Refute it at one input. -/
def floorsBothWrong : ChangeSpec := { name := "floorsBoth", fn := fun _ => fun
  | [d1, d2] => { results := [.lit (.bool false)], args := [d1, d2] }
  | _ => none }
def FloorsBothWrongFalsely : Prop := floorsBothRow.holds Try.pinned (OpenSpec.ofChange floorsBothWrong)

/- THE SECOND FORM. 'bulk': how many values and letters a reading holds, each counted each time it is reached (what is shared counts as often as it is met; a slice's spare places count too). A statement '..UptoSaid' is the law's where the arguments, and the package variables that the reading takes, are together of bulk at most 1048576: NARROWER than '..Said'. Prove '..Said' where nothing that the law and all that it calls make is longer than what came in: it says more and counts as full. Else prove '..UptoSaid'. A law counts once. -/
mutual
def uptoBulk {H : Type} : DataW H → Nat
  | .lit (.string bytes) => bytes.length + 1
  | .lit _ => 1
  | .nil => 1
  | .ptr d => uptoBulk d + 1
  | .slice elems spare => uptoBulkAll elems + uptoBulkAll spare + 1
  | .agg parts => uptoBulkAll parts + 1
  | .iface _ d => uptoBulk d + 1
  | .map entries => uptoBulkEntries entries + 1
  | .held _ => 1
def uptoBulkAll {H : Type} : List (DataW H) → Nat
  | [] => 0
  | d :: r => uptoBulk d + uptoBulkAll r
def uptoBulkEntries {H : Type} : List (Lit × DataW H) → Nat
  | [] => 0
  | x :: r => uptoBulkEntry x + uptoBulkEntries r
def uptoBulkEntry {H : Type} : Lit × DataW H → Nat
  | (.string bytes, d) => bytes.length + uptoBulk d + 1
  | (_, d) => uptoBulk d + 1
 end
def uptoSmall : (H : Type) → List (DataW H) → Bool := fun _ ds => decide (uptoBulkAll ds ≤ 1048576)
def OpenSpec.upto (s : _root_.Go.ChangeSpec) : _root_.Go.OpenSpec := { _root_.Go.OpenSpec.ofChange s with cond := some uptoSmall }

/-- 'paternosterlaw01.NumTold', WHERE WHAT IT READS IS OF BULK AT MOST 1048576: true; the input reads as it did. -/
def numToldUptoRow : OpenClaim := { program := "ytklekpkchpnmiaa", sum := "1aabbac68837952107cdc75d64f1ce671f7427a77494a61e800824f322cfc7e6", func := "paternoster/paternosterlaw01.NumTold", spec := "numTold", apart := false, narrowed := true }
def NumToldUptoSaid : Prop := numToldUptoRow.holds Try.pinned (OpenSpec.upto numToldSpec)

/-- 'paternosterlaw01.NumOrder', WHERE WHAT IT READS IS OF BULK AT MOST 1048576: true; the input reads as it did. -/
def numOrderUptoRow : OpenClaim := { program := "ytklekpkchpnmiaa", sum := "1aabbac68837952107cdc75d64f1ce671f7427a77494a61e800824f322cfc7e6", func := "paternoster/paternosterlaw01.NumOrder", spec := "numOrder", apart := false, narrowed := true }
def NumOrderUptoSaid : Prop := numOrderUptoRow.holds Try.pinned (OpenSpec.upto numOrderSpec)

/-- 'paternosterlaw01.NumWithin', WHERE WHAT IT READS IS OF BULK AT MOST 1048576: true; the input reads as it did. -/
def numWithinUptoRow : OpenClaim := { program := "ytklekpkchpnmiaa", sum := "1aabbac68837952107cdc75d64f1ce671f7427a77494a61e800824f322cfc7e6", func := "paternoster/paternosterlaw01.NumWithin", spec := "numWithin", unfollowed := true, recurses := true, apart := false, narrowed := true }
def NumWithinUptoSaid : Prop := numWithinUptoRow.holds Try.pinned (OpenSpec.upto numWithinSpec)

/-- 'paternosterlaw02.FloorsTold', WHERE WHAT IT READS IS OF BULK AT MOST 1048576: true; the input reads as it did. -/
def floorsToldUptoRow : OpenClaim := { program := "ytklekpkchpnmiaa", sum := "1aabbac68837952107cdc75d64f1ce671f7427a77494a61e800824f322cfc7e6", func := "paternoster/paternosterlaw02.FloorsTold", spec := "floorsTold", unfollowed := true, recurses := true, apart := false, narrowed := true }
def FloorsToldUptoSaid : Prop := floorsToldUptoRow.holds Try.pinned (OpenSpec.upto floorsToldSpec)

/-- 'paternosterlaw02.FloorsGo', WHERE WHAT IT READS IS OF BULK AT MOST 1048576: true; the input reads as it did. -/
def floorsGoUptoRow : OpenClaim := { program := "ytklekpkchpnmiaa", sum := "1aabbac68837952107cdc75d64f1ce671f7427a77494a61e800824f322cfc7e6", func := "paternoster/paternosterlaw02.FloorsGo", spec := "floorsGo", unfollowed := true, recurses := true, apart := false, narrowed := true }
def FloorsGoUptoSaid : Prop := floorsGoUptoRow.holds Try.pinned (OpenSpec.upto floorsGoSpec)

/-- 'paternosterlaw02.FloorsBoth', WHERE WHAT IT READS IS OF BULK AT MOST 1048576: true; the input reads as it did. -/
def floorsBothUptoRow : OpenClaim := { program := "ytklekpkchpnmiaa", sum := "1aabbac68837952107cdc75d64f1ce671f7427a77494a61e800824f322cfc7e6", func := "paternoster/paternosterlaw02.FloorsBoth", spec := "floorsBoth", unfollowed := true, recurses := true, apart := false, narrowed := true }
def FloorsBothUptoSaid : Prop := floorsBothUptoRow.holds Try.pinned (OpenSpec.upto floorsBothSpec)

end Rows
end Go.Proofs.Ytklekpkchpnmiaa
