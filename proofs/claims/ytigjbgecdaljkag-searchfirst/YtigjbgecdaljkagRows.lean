/-
  No cell of these rows narrows 'for every input' (looked for: loops, veiled, ifaces, maps, wideKeys, modest, calm, conditions, laid).
  DERIVED. THE GIVEN ROWS OF THIS SEAT. 6 by the template 'for every input the law returns true; each argument reads behind the call as it read before'; 0 by the template 'total and deterministic' (their statements: YtigjbgecdaljkagTotals.lean).
  GIVEN WITH THE SEED: the statements are not yours to turn. If you find one false, say at which input.
  Laid BY PROGRAM, IN A SANDBOX (cutbox-rows.mjs): the forced cells as the released guide's own fill.sh prints them over the translation e992eac7a565ca30… (all of the seat's roots in one cut). By AI agents, Wed Nov 11 2026. No macro, syntax, notation, axiom, sorry.
-/
import Derived.Test.YtigjbgecdaljkagChecked
import GoSem.Claim
import GoSem.ClaimJoined
import GoSem.ClaimMapViews
import Derived.JoinedTies
import Derived.KernelRfl
namespace Go.Proofs.Ytigjbgecdaljkag
/- THE CELL 'sum', in the pinned program and in every row, IS THE sha256 OF THE DUMP (.gsa) THAT YtigjbgecdaljkagProg.lean LOADS. Nothing in Lean hashes anything: it is a label: what it is worth is what the hold of that sum in a sandbox is worth. -/
noncomputable def Try.pinned : Pinned := { name := "ytigjbgecdaljkag", sum := "e992eac7a565ca30fbe1a21c578a7c3585343634259bc55a1f7b56eb788dd48b", checked := Try.checked }
namespace Rows
def none {H : Type} : Left H := { results := [], args := [] }

/-- 'paternosterlaw11.BoundTold': WHATEVER THE INPUT: true; the input reads as it did. -/
def boundToldSpec : ChangeSpec := { name := "boundTold", fn := fun _ => fun
  | [d1, d2, d3, d4] => { results := [.lit (.bool true)], args := [d1, d2, d3, d4] }
  | _ => none }
def boundToldRow : OpenClaim := { program := "ytigjbgecdaljkag", sum := "e992eac7a565ca30fbe1a21c578a7c3585343634259bc55a1f7b56eb788dd48b", func := "paternoster/paternosterlaw11.BoundTold", spec := "boundTold", unfollowed := true, recurses := true, apart := false }
def BoundToldSaid : Prop := boundToldRow.holds Try.pinned (OpenSpec.ofChange boundToldSpec)

/-- ITS FALSE NEIGHBOUR: 'it returns false'. Refute it at one input. -/
def boundToldWrong : ChangeSpec := { name := "boundTold", fn := fun _ => fun
  | [d1, d2, d3, d4] => { results := [.lit (.bool false)], args := [d1, d2, d3, d4] }
  | _ => none }
def BoundToldWrongFalsely : Prop := boundToldRow.holds Try.pinned (OpenSpec.ofChange boundToldWrong)

/-- 'paternosterlaw11.BoundLeast': WHATEVER THE INPUT: true; the input reads as it did. -/
def boundLeastSpec : ChangeSpec := { name := "boundLeast", fn := fun _ => fun
  | [d1, d2, d3, d4] => { results := [.lit (.bool true)], args := [d1, d2, d3, d4] }
  | _ => none }
def boundLeastRow : OpenClaim := { program := "ytigjbgecdaljkag", sum := "e992eac7a565ca30fbe1a21c578a7c3585343634259bc55a1f7b56eb788dd48b", func := "paternoster/paternosterlaw11.BoundLeast", spec := "boundLeast", unfollowed := true, recurses := true, apart := false }
def BoundLeastSaid : Prop := boundLeastRow.holds Try.pinned (OpenSpec.ofChange boundLeastSpec)

/-- ITS FALSE NEIGHBOUR: 'it returns false'. Refute it at one input. -/
def boundLeastWrong : ChangeSpec := { name := "boundLeast", fn := fun _ => fun
  | [d1, d2, d3, d4] => { results := [.lit (.bool false)], args := [d1, d2, d3, d4] }
  | _ => none }
def BoundLeastWrongFalsely : Prop := boundLeastRow.holds Try.pinned (OpenSpec.ofChange boundLeastWrong)

/-- 'paternosterlaw11.BoundRises': WHATEVER THE INPUT: true; the input reads as it did. -/
def boundRisesSpec : ChangeSpec := { name := "boundRises", fn := fun _ => fun
  | [d1, d2, d3, d4] => { results := [.lit (.bool true)], args := [d1, d2, d3, d4] }
  | _ => none }
def boundRisesRow : OpenClaim := { program := "ytigjbgecdaljkag", sum := "e992eac7a565ca30fbe1a21c578a7c3585343634259bc55a1f7b56eb788dd48b", func := "paternoster/paternosterlaw11.BoundRises", spec := "boundRises", unfollowed := true, recurses := true, apart := false }
def BoundRisesSaid : Prop := boundRisesRow.holds Try.pinned (OpenSpec.ofChange boundRisesSpec)

/-- ITS FALSE NEIGHBOUR: 'it returns false'. Refute it at one input. -/
def boundRisesWrong : ChangeSpec := { name := "boundRises", fn := fun _ => fun
  | [d1, d2, d3, d4] => { results := [.lit (.bool false)], args := [d1, d2, d3, d4] }
  | _ => none }
def BoundRisesWrongFalsely : Prop := boundRisesRow.holds Try.pinned (OpenSpec.ofChange boundRisesWrong)

/-- 'paternosterlaw12.SearchTold': WHATEVER THE INPUT: true; the input reads as it did. -/
def searchToldSpec : ChangeSpec := { name := "searchTold", fn := fun _ => fun
  | [d1, d2] => { results := [.lit (.bool true)], args := [d1, d2] }
  | _ => none }
def searchToldRow : OpenClaim := { program := "ytigjbgecdaljkag", sum := "e992eac7a565ca30fbe1a21c578a7c3585343634259bc55a1f7b56eb788dd48b", func := "paternoster/paternosterlaw12.SearchTold", spec := "searchTold", unfollowed := true, recurses := true, apart := false }
def SearchToldSaid : Prop := searchToldRow.holds Try.pinned (OpenSpec.ofChange searchToldSpec)

/-- ITS FALSE NEIGHBOUR: 'it returns false'. Refute it at one input. -/
def searchToldWrong : ChangeSpec := { name := "searchTold", fn := fun _ => fun
  | [d1, d2] => { results := [.lit (.bool false)], args := [d1, d2] }
  | _ => none }
def SearchToldWrongFalsely : Prop := searchToldRow.holds Try.pinned (OpenSpec.ofChange searchToldWrong)

/-- 'paternosterlaw12.SearchBest': WHATEVER THE INPUT: true; the input reads as it did. -/
def searchBestSpec : ChangeSpec := { name := "searchBest", fn := fun _ => fun
  | [d1, d2] => { results := [.lit (.bool true)], args := [d1, d2] }
  | _ => none }
def searchBestRow : OpenClaim := { program := "ytigjbgecdaljkag", sum := "e992eac7a565ca30fbe1a21c578a7c3585343634259bc55a1f7b56eb788dd48b", func := "paternoster/paternosterlaw12.SearchBest", spec := "searchBest", unfollowed := true, recurses := true, apart := false }
def SearchBestSaid : Prop := searchBestRow.holds Try.pinned (OpenSpec.ofChange searchBestSpec)

/-- ITS FALSE NEIGHBOUR: 'it returns false'. Refute it at one input. -/
def searchBestWrong : ChangeSpec := { name := "searchBest", fn := fun _ => fun
  | [d1, d2] => { results := [.lit (.bool false)], args := [d1, d2] }
  | _ => none }
def SearchBestWrongFalsely : Prop := searchBestRow.holds Try.pinned (OpenSpec.ofChange searchBestWrong)

/-- 'paternosterlaw12.SearchFirst': WHATEVER THE INPUT: true; the input reads as it did. -/
def searchFirstSpec : ChangeSpec := { name := "searchFirst", fn := fun _ => fun
  | [d1, d2, d3] => { results := [.lit (.bool true)], args := [d1, d2, d3] }
  | _ => none }
def searchFirstRow : OpenClaim := { program := "ytigjbgecdaljkag", sum := "e992eac7a565ca30fbe1a21c578a7c3585343634259bc55a1f7b56eb788dd48b", func := "paternoster/paternosterlaw12.SearchFirst", spec := "searchFirst", unfollowed := true, recurses := true, apart := false }
def SearchFirstSaid : Prop := searchFirstRow.holds Try.pinned (OpenSpec.ofChange searchFirstSpec)

/-- ITS FALSE NEIGHBOUR: 'it returns false'. Refute it at one input. -/
def searchFirstWrong : ChangeSpec := { name := "searchFirst", fn := fun _ => fun
  | [d1, d2, d3] => { results := [.lit (.bool false)], args := [d1, d2, d3] }
  | _ => none }
def SearchFirstWrongFalsely : Prop := searchFirstRow.holds Try.pinned (OpenSpec.ofChange searchFirstWrong)

/- THE SECOND FORM. 'bulk': how many values and letters a reading holds, each counted each time it is reached (what is shared counts as often as it is met; a slice's spare places count too). A statement '..UptoSaid' is the law's where the arguments, and the package variables that the reading takes, are together of bulk at most 1048576: NARROWER than '..Said'. Prove '..Said' where nothing that the law and all that it calls make is longer than what came in: it says more and counts as full. Else prove '..UptoSaid'. A law counts once. -/
mutual
def uptoBulk {H : Type} : DataW H → Nat
  | .lit (.string bytes) => bytes.length + 1
  | .lit _ => 1
  | .nil => 1
  | .ptr d => uptoBulk d + 1
  | .slice elems spare => uptoBulkAll elems + uptoBulkAll spare + 1
  | .agg parts => uptoBulkAll parts + 1
  | .iface _ d => uptoBulk d + 1
  | .map entries => uptoBulkEntries entries + 1
  | .held _ => 1
def uptoBulkAll {H : Type} : List (DataW H) → Nat
  | [] => 0
  | d :: r => uptoBulk d + uptoBulkAll r
def uptoBulkEntries {H : Type} : List (Lit × DataW H) → Nat
  | [] => 0
  | x :: r => uptoBulkEntry x + uptoBulkEntries r
def uptoBulkEntry {H : Type} : Lit × DataW H → Nat
  | (.string bytes, d) => bytes.length + uptoBulk d + 1
  | (_, d) => uptoBulk d + 1
 end
def uptoSmall : (H : Type) → List (DataW H) → Bool := fun _ ds => decide (uptoBulkAll ds ≤ 1048576)
def OpenSpec.upto (s : _root_.Go.ChangeSpec) : _root_.Go.OpenSpec := { _root_.Go.OpenSpec.ofChange s with cond := some uptoSmall }

/-- 'paternosterlaw11.BoundTold', WHERE WHAT IT READS IS OF BULK AT MOST 1048576: true; the input reads as it did. -/
def boundToldUptoRow : OpenClaim := { program := "ytigjbgecdaljkag", sum := "e992eac7a565ca30fbe1a21c578a7c3585343634259bc55a1f7b56eb788dd48b", func := "paternoster/paternosterlaw11.BoundTold", spec := "boundTold", unfollowed := true, recurses := true, apart := false, narrowed := true }
def BoundToldUptoSaid : Prop := boundToldUptoRow.holds Try.pinned (OpenSpec.upto boundToldSpec)

/-- 'paternosterlaw11.BoundLeast', WHERE WHAT IT READS IS OF BULK AT MOST 1048576: true; the input reads as it did. -/
def boundLeastUptoRow : OpenClaim := { program := "ytigjbgecdaljkag", sum := "e992eac7a565ca30fbe1a21c578a7c3585343634259bc55a1f7b56eb788dd48b", func := "paternoster/paternosterlaw11.BoundLeast", spec := "boundLeast", unfollowed := true, recurses := true, apart := false, narrowed := true }
def BoundLeastUptoSaid : Prop := boundLeastUptoRow.holds Try.pinned (OpenSpec.upto boundLeastSpec)

/-- 'paternosterlaw11.BoundRises', WHERE WHAT IT READS IS OF BULK AT MOST 1048576: true; the input reads as it did. -/
def boundRisesUptoRow : OpenClaim := { program := "ytigjbgecdaljkag", sum := "e992eac7a565ca30fbe1a21c578a7c3585343634259bc55a1f7b56eb788dd48b", func := "paternoster/paternosterlaw11.BoundRises", spec := "boundRises", unfollowed := true, recurses := true, apart := false, narrowed := true }
def BoundRisesUptoSaid : Prop := boundRisesUptoRow.holds Try.pinned (OpenSpec.upto boundRisesSpec)

/-- 'paternosterlaw12.SearchTold', WHERE WHAT IT READS IS OF BULK AT MOST 1048576: true; the input reads as it did. -/
def searchToldUptoRow : OpenClaim := { program := "ytigjbgecdaljkag", sum := "e992eac7a565ca30fbe1a21c578a7c3585343634259bc55a1f7b56eb788dd48b", func := "paternoster/paternosterlaw12.SearchTold", spec := "searchTold", unfollowed := true, recurses := true, apart := false, narrowed := true }
def SearchToldUptoSaid : Prop := searchToldUptoRow.holds Try.pinned (OpenSpec.upto searchToldSpec)

/-- 'paternosterlaw12.SearchBest', WHERE WHAT IT READS IS OF BULK AT MOST 1048576: true; the input reads as it did. -/
def searchBestUptoRow : OpenClaim := { program := "ytigjbgecdaljkag", sum := "e992eac7a565ca30fbe1a21c578a7c3585343634259bc55a1f7b56eb788dd48b", func := "paternoster/paternosterlaw12.SearchBest", spec := "searchBest", unfollowed := true, recurses := true, apart := false, narrowed := true }
def SearchBestUptoSaid : Prop := searchBestUptoRow.holds Try.pinned (OpenSpec.upto searchBestSpec)

/-- 'paternosterlaw12.SearchFirst', WHERE WHAT IT READS IS OF BULK AT MOST 1048576: true; the input reads as it did. -/
def searchFirstUptoRow : OpenClaim := { program := "ytigjbgecdaljkag", sum := "e992eac7a565ca30fbe1a21c578a7c3585343634259bc55a1f7b56eb788dd48b", func := "paternoster/paternosterlaw12.SearchFirst", spec := "searchFirst", unfollowed := true, recurses := true, apart := false, narrowed := true }
def SearchFirstUptoSaid : Prop := searchFirstUptoRow.holds Try.pinned (OpenSpec.upto searchFirstSpec)

end Rows
end Go.Proofs.Ytigjbgecdaljkag
