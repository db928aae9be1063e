/-
  No cell of these rows narrows 'for every input' (looked for: loops, veiled, ifaces, maps, wideKeys, modest, calm, conditions, laid).
  DERIVED. THE GIVEN ROWS OF THIS SEAT. 6 by the template 'for every input the law returns true; each argument reads behind the call as it read before'; 0 by the template 'total and deterministic' (their statements: YtkbfljacjfaamadTotals.lean).
  GIVEN WITH THE SEED: the statements are not yours to turn. If you find one false, say at which input.
  Laid BY PROGRAM, IN A SANDBOX (cutbox-rows.mjs): the forced cells as the released guide's own fill.sh prints them over the translation 6a7c856b447ae523… (all of the seat's roots in one cut). By AI agents, Wed Nov 11 2026. No macro, syntax, notation, axiom, sorry.
-/
import Derived.Test.YtkbfljacjfaamadChecked
import GoSem.Claim
import GoSem.ClaimJoined
import GoSem.ClaimMapViews
import Derived.JoinedTies
import Derived.KernelRfl
namespace Go.Proofs.Ytkbfljacjfaamad
/- THE CELL 'sum', in the pinned program and in every row, IS THE sha256 OF THE DUMP (.gsa) THAT YtkbfljacjfaamadProg.lean LOADS. Nothing in Lean hashes anything: it is a label: what it is worth is what the hold of that sum in a sandbox is worth. -/
noncomputable def Try.pinned : Pinned := { name := "ytkbfljacjfaamad", sum := "6a7c856b447ae5232e21ba0918d1527484a3f1ea7aa3f299d3d90bef7de6d86f", checked := Try.checked }
namespace Rows
def none {H : Type} : Left H := { results := [], args := [] }

/-- 'paternosterlaw06.CallsActs': WHATEVER THE INPUT: true; the input reads as it did. -/
def callsActsSpec : ChangeSpec := { name := "callsActs", fn := fun _ => fun
  | [d1, d2] => { results := [.lit (.bool true)], args := [d1, d2] }
  | _ => none }
def callsActsRow : OpenClaim := { program := "ytkbfljacjfaamad", sum := "6a7c856b447ae5232e21ba0918d1527484a3f1ea7aa3f299d3d90bef7de6d86f", func := "paternoster/paternosterlaw06.CallsActs", spec := "callsActs", unfollowed := true, recurses := true, apart := false }
def CallsActsSaid : Prop := callsActsRow.holds Try.pinned (OpenSpec.ofChange callsActsSpec)

/-- ITS FALSE NEIGHBOUR: 'it returns false'. Refute it at one input. -/
def callsActsWrong : ChangeSpec := { name := "callsActs", fn := fun _ => fun
  | [d1, d2] => { results := [.lit (.bool false)], args := [d1, d2] }
  | _ => none }
def CallsActsWrongFalsely : Prop := callsActsRow.holds Try.pinned (OpenSpec.ofChange callsActsWrong)

/-- 'paternosterlaw06.CallsKeep': WHATEVER THE INPUT: true; the input reads as it did. -/
def callsKeepSpec : ChangeSpec := { name := "callsKeep", fn := fun _ => fun
  | [d1, d2] => { results := [.lit (.bool true)], args := [d1, d2] }
  | _ => none }
def callsKeepRow : OpenClaim := { program := "ytkbfljacjfaamad", sum := "6a7c856b447ae5232e21ba0918d1527484a3f1ea7aa3f299d3d90bef7de6d86f", func := "paternoster/paternosterlaw06.CallsKeep", spec := "callsKeep", unfollowed := true, recurses := true, apart := false }
def CallsKeepSaid : Prop := callsKeepRow.holds Try.pinned (OpenSpec.ofChange callsKeepSpec)

/-- ITS FALSE NEIGHBOUR: 'it returns false'. Refute it at one input. -/
def callsKeepWrong : ChangeSpec := { name := "callsKeep", fn := fun _ => fun
  | [d1, d2] => { results := [.lit (.bool false)], args := [d1, d2] }
  | _ => none }
def CallsKeepWrongFalsely : Prop := callsKeepRow.holds Try.pinned (OpenSpec.ofChange callsKeepWrong)

/-- 'paternosterlaw06.CallsTwice': WHATEVER THE INPUT: true; the input reads as it did. -/
def callsTwiceSpec : ChangeSpec := { name := "callsTwice", fn := fun _ => fun
  | [d1, d2, d3, d4] => { results := [.lit (.bool true)], args := [d1, d2, d3, d4] }
  | _ => none }
def callsTwiceRow : OpenClaim := { program := "ytkbfljacjfaamad", sum := "6a7c856b447ae5232e21ba0918d1527484a3f1ea7aa3f299d3d90bef7de6d86f", func := "paternoster/paternosterlaw06.CallsTwice", spec := "callsTwice", unfollowed := true, recurses := true, apart := false }
def CallsTwiceSaid : Prop := callsTwiceRow.holds Try.pinned (OpenSpec.ofChange callsTwiceSpec)

/-- ITS FALSE NEIGHBOUR: 'it returns false'. Refute it at one input. -/
def callsTwiceWrong : ChangeSpec := { name := "callsTwice", fn := fun _ => fun
  | [d1, d2, d3, d4] => { results := [.lit (.bool false)], args := [d1, d2, d3, d4] }
  | _ => none }
def CallsTwiceWrongFalsely : Prop := callsTwiceRow.holds Try.pinned (OpenSpec.ofChange callsTwiceWrong)

/-- 'paternosterlaw07.FrameCodes': WHATEVER THE INPUT: true; the input reads as it did. -/
def frameCodesSpec : ChangeSpec := { name := "frameCodes", fn := fun _ => fun
  | [d1, d2] => { results := [.lit (.bool true)], args := [d1, d2] }
  | _ => none }
def frameCodesRow : OpenClaim := { program := "ytkbfljacjfaamad", sum := "6a7c856b447ae5232e21ba0918d1527484a3f1ea7aa3f299d3d90bef7de6d86f", func := "paternoster/paternosterlaw07.FrameCodes", spec := "frameCodes", apart := false }
def FrameCodesSaid : Prop := frameCodesRow.holds Try.pinned (OpenSpec.ofChange frameCodesSpec)

/-- ITS FALSE NEIGHBOUR: 'it returns false'. Refute it at one input. -/
def frameCodesWrong : ChangeSpec := { name := "frameCodes", fn := fun _ => fun
  | [d1, d2] => { results := [.lit (.bool false)], args := [d1, d2] }
  | _ => none }
def FrameCodesWrongFalsely : Prop := frameCodesRow.holds Try.pinned (OpenSpec.ofChange frameCodesWrong)

/-- 'paternosterlaw07.FrameFeeds': WHATEVER THE INPUT: true; the input reads as it did. -/
def frameFeedsSpec : ChangeSpec := { name := "frameFeeds", fn := fun _ => fun
  | [d] => { results := [.lit (.bool true)], args := [d] }
  | _ => none }
def frameFeedsRow : OpenClaim := { program := "ytkbfljacjfaamad", sum := "6a7c856b447ae5232e21ba0918d1527484a3f1ea7aa3f299d3d90bef7de6d86f", func := "paternoster/paternosterlaw07.FrameFeeds", spec := "frameFeeds", apart := false }
def FrameFeedsSaid : Prop := frameFeedsRow.holds Try.pinned (OpenSpec.ofChange frameFeedsSpec)

/-- ITS FALSE NEIGHBOUR: 'it returns false'. Refute it at one input. -/
def frameFeedsWrong : ChangeSpec := { name := "frameFeeds", fn := fun _ => fun
  | [d] => { results := [.lit (.bool false)], args := [d] }
  | _ => none }
def FrameFeedsWrongFalsely : Prop := frameFeedsRow.holds Try.pinned (OpenSpec.ofChange frameFeedsWrong)

/-- 'paternosterlaw07.FrameTurned': WHATEVER THE INPUT: true; the input reads as it did. -/
def frameTurnedSpec : ChangeSpec := { name := "frameTurned", fn := fun _ => fun
  | [d1, d2, d3] => { results := [.lit (.bool true)], args := [d1, d2, d3] }
  | _ => none }
def frameTurnedRow : OpenClaim := { program := "ytkbfljacjfaamad", sum := "6a7c856b447ae5232e21ba0918d1527484a3f1ea7aa3f299d3d90bef7de6d86f", func := "paternoster/paternosterlaw07.FrameTurned", spec := "frameTurned", apart := false }
def FrameTurnedSaid : Prop := frameTurnedRow.holds Try.pinned (OpenSpec.ofChange frameTurnedSpec)

/-- ITS FALSE NEIGHBOUR: 'it returns false'. Refute it at one input. -/
def frameTurnedWrong : ChangeSpec := { name := "frameTurned", fn := fun _ => fun
  | [d1, d2, d3] => { results := [.lit (.bool false)], args := [d1, d2, d3] }
  | _ => none }
def FrameTurnedWrongFalsely : Prop := frameTurnedRow.holds Try.pinned (OpenSpec.ofChange frameTurnedWrong)

/- THE SECOND FORM. 'bulk': how many values and letters a reading holds, each counted each time it is reached (what is shared counts as often as it is met; a slice's spare places count too). A statement '..UptoSaid' is the law's where the arguments, and the package variables that the reading takes, are together of bulk at most 1048576: NARROWER than '..Said'. Prove '..Said' where nothing that the law and all that it calls make is longer than what came in: it says more and counts as full. Else prove '..UptoSaid'. A law counts once. -/
mutual
def uptoBulk {H : Type} : DataW H → Nat
  | .lit (.string bytes) => bytes.length + 1
  | .lit _ => 1
  | .nil => 1
  | .ptr d => uptoBulk d + 1
  | .slice elems spare => uptoBulkAll elems + uptoBulkAll spare + 1
  | .agg parts => uptoBulkAll parts + 1
  | .iface _ d => uptoBulk d + 1
  | .map entries => uptoBulkEntries entries + 1
  | .held _ => 1
def uptoBulkAll {H : Type} : List (DataW H) → Nat
  | [] => 0
  | d :: r => uptoBulk d + uptoBulkAll r
def uptoBulkEntries {H : Type} : List (Lit × DataW H) → Nat
  | [] => 0
  | x :: r => uptoBulkEntry x + uptoBulkEntries r
def uptoBulkEntry {H : Type} : Lit × DataW H → Nat
  | (.string bytes, d) => bytes.length + uptoBulk d + 1
  | (_, d) => uptoBulk d + 1
 end
def uptoSmall : (H : Type) → List (DataW H) → Bool := fun _ ds => decide (uptoBulkAll ds ≤ 1048576)
def OpenSpec.upto (s : _root_.Go.ChangeSpec) : _root_.Go.OpenSpec := { _root_.Go.OpenSpec.ofChange s with cond := some uptoSmall }

/-- 'paternosterlaw06.CallsActs', WHERE WHAT IT READS IS OF BULK AT MOST 1048576: true; the input reads as it did. -/
def callsActsUptoRow : OpenClaim := { program := "ytkbfljacjfaamad", sum := "6a7c856b447ae5232e21ba0918d1527484a3f1ea7aa3f299d3d90bef7de6d86f", func := "paternoster/paternosterlaw06.CallsActs", spec := "callsActs", unfollowed := true, recurses := true, apart := false, narrowed := true }
def CallsActsUptoSaid : Prop := callsActsUptoRow.holds Try.pinned (OpenSpec.upto callsActsSpec)

/-- 'paternosterlaw06.CallsKeep', WHERE WHAT IT READS IS OF BULK AT MOST 1048576: true; the input reads as it did. -/
def callsKeepUptoRow : OpenClaim := { program := "ytkbfljacjfaamad", sum := "6a7c856b447ae5232e21ba0918d1527484a3f1ea7aa3f299d3d90bef7de6d86f", func := "paternoster/paternosterlaw06.CallsKeep", spec := "callsKeep", unfollowed := true, recurses := true, apart := false, narrowed := true }
def CallsKeepUptoSaid : Prop := callsKeepUptoRow.holds Try.pinned (OpenSpec.upto callsKeepSpec)

/-- 'paternosterlaw06.CallsTwice', WHERE WHAT IT READS IS OF BULK AT MOST 1048576: true; the input reads as it did. -/
def callsTwiceUptoRow : OpenClaim := { program := "ytkbfljacjfaamad", sum := "6a7c856b447ae5232e21ba0918d1527484a3f1ea7aa3f299d3d90bef7de6d86f", func := "paternoster/paternosterlaw06.CallsTwice", spec := "callsTwice", unfollowed := true, recurses := true, apart := false, narrowed := true }
def CallsTwiceUptoSaid : Prop := callsTwiceUptoRow.holds Try.pinned (OpenSpec.upto callsTwiceSpec)

/-- 'paternosterlaw07.FrameCodes', WHERE WHAT IT READS IS OF BULK AT MOST 1048576: true; the input reads as it did. -/
def frameCodesUptoRow : OpenClaim := { program := "ytkbfljacjfaamad", sum := "6a7c856b447ae5232e21ba0918d1527484a3f1ea7aa3f299d3d90bef7de6d86f", func := "paternoster/paternosterlaw07.FrameCodes", spec := "frameCodes", apart := false, narrowed := true }
def FrameCodesUptoSaid : Prop := frameCodesUptoRow.holds Try.pinned (OpenSpec.upto frameCodesSpec)

/-- 'paternosterlaw07.FrameFeeds', WHERE WHAT IT READS IS OF BULK AT MOST 1048576: true; the input reads as it did. -/
def frameFeedsUptoRow : OpenClaim := { program := "ytkbfljacjfaamad", sum := "6a7c856b447ae5232e21ba0918d1527484a3f1ea7aa3f299d3d90bef7de6d86f", func := "paternoster/paternosterlaw07.FrameFeeds", spec := "frameFeeds", apart := false, narrowed := true }
def FrameFeedsUptoSaid : Prop := frameFeedsUptoRow.holds Try.pinned (OpenSpec.upto frameFeedsSpec)

/-- 'paternosterlaw07.FrameTurned', WHERE WHAT IT READS IS OF BULK AT MOST 1048576: true; the input reads as it did. -/
def frameTurnedUptoRow : OpenClaim := { program := "ytkbfljacjfaamad", sum := "6a7c856b447ae5232e21ba0918d1527484a3f1ea7aa3f299d3d90bef7de6d86f", func := "paternoster/paternosterlaw07.FrameTurned", spec := "frameTurned", apart := false, narrowed := true }
def FrameTurnedUptoSaid : Prop := frameTurnedUptoRow.holds Try.pinned (OpenSpec.upto frameTurnedSpec)

end Rows
end Go.Proofs.Ytkbfljacjfaamad
