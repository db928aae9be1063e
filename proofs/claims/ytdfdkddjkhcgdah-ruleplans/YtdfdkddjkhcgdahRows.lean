/-
  No cell of these rows narrows 'for every input' (looked for: loops, veiled, ifaces, maps, wideKeys, modest, calm, conditions, laid).
  DERIVED. THE GIVEN ROWS OF THIS SEAT. 6 by the template 'for every input the law returns true; each argument reads behind the call as it read before'; 0 by the template 'total and deterministic' (their statements: YtdfdkddjkhcgdahTotals.lean).
  GIVEN WITH THE SEED: the statements are not yours to turn. If you find one false, say at which input.
  Laid BY PROGRAM, IN A SANDBOX (cutbox-rows.mjs): the forced cells as the released guide's own fill.sh prints them over the translation dc6cd0a6e3db9283… (all of the seat's roots in one cut). By AI agents, Wed Nov 11 2026. No macro, syntax, notation, axiom, sorry.
-/
import Derived.Test.YtdfdkddjkhcgdahChecked
import GoSem.Claim
import GoSem.ClaimJoined
import GoSem.ClaimMapViews
import Derived.JoinedTies
import Derived.KernelRfl
namespace Go.Proofs.Ytdfdkddjkhcgdah
/- THE CELL 'sum', in the pinned program and in every row, IS THE sha256 OF THE DUMP (.gsa) THAT YtdfdkddjkhcgdahProg.lean LOADS. Nothing in Lean hashes anything: it is a label: what it is worth is what the hold of that sum in a sandbox is worth. -/
noncomputable def Try.pinned : Pinned := { name := "ytdfdkddjkhcgdah", sum := "dc6cd0a6e3db9283ed06dbbd62bd26908178237ebeb30f4ccacf618d483ad6ce", checked := Try.checked }
namespace Rows
def none {H : Type} : Left H := { results := [], args := [] }

/-- 'paternosterlaw12.SearchAlike': WHATEVER THE INPUT: true; the input reads as it did. -/
def searchAlikeSpec : ChangeSpec := { name := "searchAlike", fn := fun _ => fun
  | [d1, d2] => { results := [.lit (.bool true)], args := [d1, d2] }
  | _ => none }
def searchAlikeRow : OpenClaim := { program := "ytdfdkddjkhcgdah", sum := "dc6cd0a6e3db9283ed06dbbd62bd26908178237ebeb30f4ccacf618d483ad6ce", func := "paternoster/paternosterlaw12.SearchAlike", spec := "searchAlike", unfollowed := true, recurses := true, apart := false }
def SearchAlikeSaid : Prop := searchAlikeRow.holds Try.pinned (OpenSpec.ofChange searchAlikeSpec)

/-- ITS FALSE NEIGHBOUR: 'it returns false'. Refute it at one input. -/
def searchAlikeWrong : ChangeSpec := { name := "searchAlike", fn := fun _ => fun
  | [d1, d2] => { results := [.lit (.bool false)], args := [d1, d2] }
  | _ => none }
def SearchAlikeWrongFalsely : Prop := searchAlikeRow.holds Try.pinned (OpenSpec.ofChange searchAlikeWrong)

/-- 'paternosterlaw13.CheckTold': WHATEVER THE INPUT: true; the input reads as it did. -/
def checkToldSpec : ChangeSpec := { name := "checkTold", fn := fun _ => fun
  | [d1, d2] => { results := [.lit (.bool true)], args := [d1, d2] }
  | _ => none }
def checkToldRow : OpenClaim := { program := "ytdfdkddjkhcgdah", sum := "dc6cd0a6e3db9283ed06dbbd62bd26908178237ebeb30f4ccacf618d483ad6ce", func := "paternoster/paternosterlaw13.CheckTold", spec := "checkTold", unfollowed := true, recurses := true, apart := false }
def CheckToldSaid : Prop := checkToldRow.holds Try.pinned (OpenSpec.ofChange checkToldSpec)

/-- ITS FALSE NEIGHBOUR: 'it returns false'. Refute it at one input. -/
def checkToldWrong : ChangeSpec := { name := "checkTold", fn := fun _ => fun
  | [d1, d2] => { results := [.lit (.bool false)], args := [d1, d2] }
  | _ => none }
def CheckToldWrongFalsely : Prop := checkToldRow.holds Try.pinned (OpenSpec.ofChange checkToldWrong)

/-- 'paternosterlaw13.CheckSound': WHATEVER THE INPUT: true; the input reads as it did. -/
def checkSoundSpec : ChangeSpec := { name := "checkSound", fn := fun _ => fun
  | [d1, d2] => { results := [.lit (.bool true)], args := [d1, d2] }
  | _ => none }
def checkSoundRow : OpenClaim := { program := "ytdfdkddjkhcgdah", sum := "dc6cd0a6e3db9283ed06dbbd62bd26908178237ebeb30f4ccacf618d483ad6ce", func := "paternoster/paternosterlaw13.CheckSound", spec := "checkSound", unfollowed := true, recurses := true, apart := false }
def CheckSoundSaid : Prop := checkSoundRow.holds Try.pinned (OpenSpec.ofChange checkSoundSpec)

/-- ITS FALSE NEIGHBOUR: 'it returns false'. Refute it at one input. -/
def checkSoundWrong : ChangeSpec := { name := "checkSound", fn := fun _ => fun
  | [d1, d2] => { results := [.lit (.bool false)], args := [d1, d2] }
  | _ => none }
def CheckSoundWrongFalsely : Prop := checkSoundRow.holds Try.pinned (OpenSpec.ofChange checkSoundWrong)

/-- 'paternosterlaw13.CheckSearch': WHATEVER THE INPUT: true; the input reads as it did. -/
def checkSearchSpec : ChangeSpec := { name := "checkSearch", fn := fun _ => fun
  | [d1, d2] => { results := [.lit (.bool true)], args := [d1, d2] }
  | _ => none }
def checkSearchRow : OpenClaim := { program := "ytdfdkddjkhcgdah", sum := "dc6cd0a6e3db9283ed06dbbd62bd26908178237ebeb30f4ccacf618d483ad6ce", func := "paternoster/paternosterlaw13.CheckSearch", spec := "checkSearch", unfollowed := true, recurses := true, apart := false }
def CheckSearchSaid : Prop := checkSearchRow.holds Try.pinned (OpenSpec.ofChange checkSearchSpec)

/-- ITS FALSE NEIGHBOUR: 'it returns false'. Refute it at one input. -/
def checkSearchWrong : ChangeSpec := { name := "checkSearch", fn := fun _ => fun
  | [d1, d2] => { results := [.lit (.bool false)], args := [d1, d2] }
  | _ => none }
def CheckSearchWrongFalsely : Prop := checkSearchRow.holds Try.pinned (OpenSpec.ofChange checkSearchWrong)

/-- 'paternosterlaw13.CheckMarks': WHATEVER THE INPUT: true; the input reads as it did. -/
def checkMarksSpec : ChangeSpec := { name := "checkMarks", fn := fun _ => fun
  | [d1, d2, d3] => { results := [.lit (.bool true)], args := [d1, d2, d3] }
  | _ => none }
def checkMarksRow : OpenClaim := { program := "ytdfdkddjkhcgdah", sum := "dc6cd0a6e3db9283ed06dbbd62bd26908178237ebeb30f4ccacf618d483ad6ce", func := "paternoster/paternosterlaw13.CheckMarks", spec := "checkMarks", unfollowed := true, recurses := true, apart := false }
def CheckMarksSaid : Prop := checkMarksRow.holds Try.pinned (OpenSpec.ofChange checkMarksSpec)

/-- ITS FALSE NEIGHBOUR: 'it returns false'. Refute it at one input. -/
def checkMarksWrong : ChangeSpec := { name := "checkMarks", fn := fun _ => fun
  | [d1, d2, d3] => { results := [.lit (.bool false)], args := [d1, d2, d3] }
  | _ => none }
def CheckMarksWrongFalsely : Prop := checkMarksRow.holds Try.pinned (OpenSpec.ofChange checkMarksWrong)

/-- 'paternosterlaw14.RulePlans': WHATEVER THE INPUT: true; the input reads as it did. -/
def rulePlansSpec : ChangeSpec := { name := "rulePlans", fn := fun _ => fun
  | [d] => { results := [.lit (.bool true)], args := [d] }
  | _ => none }
def rulePlansRow : OpenClaim := { program := "ytdfdkddjkhcgdah", sum := "dc6cd0a6e3db9283ed06dbbd62bd26908178237ebeb30f4ccacf618d483ad6ce", func := "paternoster/paternosterlaw14.RulePlans", spec := "rulePlans", unfollowed := true, recurses := true, apart := false }
def RulePlansSaid : Prop := rulePlansRow.holds Try.pinned (OpenSpec.ofChange rulePlansSpec)

/-- ITS FALSE NEIGHBOUR: 'it returns false'. Refute it at one input. -/
def rulePlansWrong : ChangeSpec := { name := "rulePlans", fn := fun _ => fun
  | [d] => { results := [.lit (.bool false)], args := [d] }
  | _ => none }
def RulePlansWrongFalsely : Prop := rulePlansRow.holds Try.pinned (OpenSpec.ofChange rulePlansWrong)

/- THE SECOND FORM. 'bulk': how many values and letters a reading holds, each counted each time it is reached (what is shared counts as often as it is met; a slice's spare places count too). A statement '..UptoSaid' is the law's where the arguments, and the package variables that the reading takes, are together of bulk at most 1048576: NARROWER than '..Said'. Prove '..Said' where nothing that the law and all that it calls make is longer than what came in: it says more and counts as full. Else prove '..UptoSaid'. A law counts once. -/
mutual
def uptoBulk {H : Type} : DataW H → Nat
  | .lit (.string bytes) => bytes.length + 1
  | .lit _ => 1
  | .nil => 1
  | .ptr d => uptoBulk d + 1
  | .slice elems spare => uptoBulkAll elems + uptoBulkAll spare + 1
  | .agg parts => uptoBulkAll parts + 1
  | .iface _ d => uptoBulk d + 1
  | .map entries => uptoBulkEntries entries + 1
  | .held _ => 1
def uptoBulkAll {H : Type} : List (DataW H) → Nat
  | [] => 0
  | d :: r => uptoBulk d + uptoBulkAll r
def uptoBulkEntries {H : Type} : List (Lit × DataW H) → Nat
  | [] => 0
  | x :: r => uptoBulkEntry x + uptoBulkEntries r
def uptoBulkEntry {H : Type} : Lit × DataW H → Nat
  | (.string bytes, d) => bytes.length + uptoBulk d + 1
  | (_, d) => uptoBulk d + 1
 end
def uptoSmall : (H : Type) → List (DataW H) → Bool := fun _ ds => decide (uptoBulkAll ds ≤ 1048576)
def OpenSpec.upto (s : _root_.Go.ChangeSpec) : _root_.Go.OpenSpec := { _root_.Go.OpenSpec.ofChange s with cond := some uptoSmall }

/-- 'paternosterlaw12.SearchAlike', WHERE WHAT IT READS IS OF BULK AT MOST 1048576: true; the input reads as it did. -/
def searchAlikeUptoRow : OpenClaim := { program := "ytdfdkddjkhcgdah", sum := "dc6cd0a6e3db9283ed06dbbd62bd26908178237ebeb30f4ccacf618d483ad6ce", func := "paternoster/paternosterlaw12.SearchAlike", spec := "searchAlike", unfollowed := true, recurses := true, apart := false, narrowed := true }
def SearchAlikeUptoSaid : Prop := searchAlikeUptoRow.holds Try.pinned (OpenSpec.upto searchAlikeSpec)

/-- 'paternosterlaw13.CheckTold', WHERE WHAT IT READS IS OF BULK AT MOST 1048576: true; the input reads as it did. -/
def checkToldUptoRow : OpenClaim := { program := "ytdfdkddjkhcgdah", sum := "dc6cd0a6e3db9283ed06dbbd62bd26908178237ebeb30f4ccacf618d483ad6ce", func := "paternoster/paternosterlaw13.CheckTold", spec := "checkTold", unfollowed := true, recurses := true, apart := false, narrowed := true }
def CheckToldUptoSaid : Prop := checkToldUptoRow.holds Try.pinned (OpenSpec.upto checkToldSpec)

/-- 'paternosterlaw13.CheckSound', WHERE WHAT IT READS IS OF BULK AT MOST 1048576: true; the input reads as it did. -/
def checkSoundUptoRow : OpenClaim := { program := "ytdfdkddjkhcgdah", sum := "dc6cd0a6e3db9283ed06dbbd62bd26908178237ebeb30f4ccacf618d483ad6ce", func := "paternoster/paternosterlaw13.CheckSound", spec := "checkSound", unfollowed := true, recurses := true, apart := false, narrowed := true }
def CheckSoundUptoSaid : Prop := checkSoundUptoRow.holds Try.pinned (OpenSpec.upto checkSoundSpec)

/-- 'paternosterlaw13.CheckSearch', WHERE WHAT IT READS IS OF BULK AT MOST 1048576: true; the input reads as it did. -/
def checkSearchUptoRow : OpenClaim := { program := "ytdfdkddjkhcgdah", sum := "dc6cd0a6e3db9283ed06dbbd62bd26908178237ebeb30f4ccacf618d483ad6ce", func := "paternoster/paternosterlaw13.CheckSearch", spec := "checkSearch", unfollowed := true, recurses := true, apart := false, narrowed := true }
def CheckSearchUptoSaid : Prop := checkSearchUptoRow.holds Try.pinned (OpenSpec.upto checkSearchSpec)

/-- 'paternosterlaw13.CheckMarks', WHERE WHAT IT READS IS OF BULK AT MOST 1048576: true; the input reads as it did. -/
def checkMarksUptoRow : OpenClaim := { program := "ytdfdkddjkhcgdah", sum := "dc6cd0a6e3db9283ed06dbbd62bd26908178237ebeb30f4ccacf618d483ad6ce", func := "paternoster/paternosterlaw13.CheckMarks", spec := "checkMarks", unfollowed := true, recurses := true, apart := false, narrowed := true }
def CheckMarksUptoSaid : Prop := checkMarksUptoRow.holds Try.pinned (OpenSpec.upto checkMarksSpec)

/-- 'paternosterlaw14.RulePlans', WHERE WHAT IT READS IS OF BULK AT MOST 1048576: true; the input reads as it did. -/
def rulePlansUptoRow : OpenClaim := { program := "ytdfdkddjkhcgdah", sum := "dc6cd0a6e3db9283ed06dbbd62bd26908178237ebeb30f4ccacf618d483ad6ce", func := "paternoster/paternosterlaw14.RulePlans", spec := "rulePlans", unfollowed := true, recurses := true, apart := false, narrowed := true }
def RulePlansUptoSaid : Prop := rulePlansUptoRow.holds Try.pinned (OpenSpec.upto rulePlansSpec)

end Rows
end Go.Proofs.Ytdfdkddjkhcgdah
