/-
  No cell of these rows narrows 'for every input' (looked for: loops, veiled, ifaces, maps, wideKeys, modest, calm, conditions, laid).
  DERIVED. THE GIVEN ROWS OF THIS SEAT. 4 by the template 'for every input the law returns true; each argument reads behind the call as it read before'; 0 by the template 'total and deterministic' (their statements: YtnkelgdnglaafaaGreatTotals.lean).
  GIVEN WITH THE SEED: the statements are not yours to turn. If you find one false, say at which input.
  Laid BY PROGRAM, IN A SANDBOX (cutbox-rows.mjs): the forced cells as the released guide's own fill.sh prints them over the translation 397ee8b3c5028788… (all of the seat's roots in one cut). By AI agents, Wed Nov 11 2026. No macro, syntax, notation, axiom, sorry.
-/
import Derived.Test.YtnkelgdnglaafaaGreatChecked
import GoSem.Claim
import GoSem.ClaimJoined
import GoSem.ClaimMapViews
import Derived.JoinedTies
import Derived.KernelRfl
namespace Go.Proofs.YtnkelgdnglaafaaGreat
/- THE CELL 'sum', in the pinned program and in every row, IS THE sha256 OF THE DUMP (.gsa) THAT YtnkelgdnglaafaaGreatProg.lean LOADS. Nothing in Lean hashes anything: it is a label: what it is worth is what the hold of that sum in a sandbox is worth. -/
noncomputable def Tryz.pinned : Pinned := { name := "ytnkelgdnglaafaagreat", sum := "397ee8b3c5028788be29225c267300eca4c7380234132006bb1edb94a6dfbafe", checked := Tryz.checked }
namespace Rows
def none {H : Type} : Left H := { results := [], args := [] }

/-- 'paternosterlaw15.GroupSafe': WHATEVER THE INPUT: true; the input reads as it did. -/
def groupSafeSpec : ChangeSpec := { name := "groupSafe", fn := fun _ => fun
  | [d1, d2] => { results := [.lit (.bool true)], args := [d1, d2] }
  | _ => none }
def groupSafeRow : OpenClaim := { program := "ytnkelgdnglaafaagreat", sum := "397ee8b3c5028788be29225c267300eca4c7380234132006bb1edb94a6dfbafe", func := "paternoster/paternosterlaw15.GroupSafe", spec := "groupSafe", unfollowed := true, recurses := true, apart := false }
def GroupSafeSaid : Prop := groupSafeRow.holds Tryz.pinned (OpenSpec.ofChange groupSafeSpec)

/-- ITS FALSE NEIGHBOUR: 'it returns false'. Refute it at one input. -/
def groupSafeWrong : ChangeSpec := { name := "groupSafe", fn := fun _ => fun
  | [d1, d2] => { results := [.lit (.bool false)], args := [d1, d2] }
  | _ => none }
def GroupSafeWrongFalsely : Prop := groupSafeRow.holds Tryz.pinned (OpenSpec.ofChange groupSafeWrong)

/-- 'paternosterlaw15.GroupKeeps': WHATEVER THE INPUT: true; the input reads as it did. -/
def groupKeepsSpec : ChangeSpec := { name := "groupKeeps", fn := fun _ => fun
  | [d1, d2] => { results := [.lit (.bool true)], args := [d1, d2] }
  | _ => none }
def groupKeepsRow : OpenClaim := { program := "ytnkelgdnglaafaagreat", sum := "397ee8b3c5028788be29225c267300eca4c7380234132006bb1edb94a6dfbafe", func := "paternoster/paternosterlaw15.GroupKeeps", spec := "groupKeeps", unfollowed := true, recurses := true, apart := false }
def GroupKeepsSaid : Prop := groupKeepsRow.holds Tryz.pinned (OpenSpec.ofChange groupKeepsSpec)

/-- ITS FALSE NEIGHBOUR: 'it returns false'. Refute it at one input. -/
def groupKeepsWrong : ChangeSpec := { name := "groupKeeps", fn := fun _ => fun
  | [d1, d2] => { results := [.lit (.bool false)], args := [d1, d2] }
  | _ => none }
def GroupKeepsWrongFalsely : Prop := groupKeepsRow.holds Tryz.pinned (OpenSpec.ofChange groupKeepsWrong)

/-- 'paternosterlaw15.GroupDeaf': WHATEVER THE INPUT: true; the input reads as it did. -/
def groupDeafSpec : ChangeSpec := { name := "groupDeaf", fn := fun _ => fun
  | [d1, d2] => { results := [.lit (.bool true)], args := [d1, d2] }
  | _ => none }
def groupDeafRow : OpenClaim := { program := "ytnkelgdnglaafaagreat", sum := "397ee8b3c5028788be29225c267300eca4c7380234132006bb1edb94a6dfbafe", func := "paternoster/paternosterlaw15.GroupDeaf", spec := "groupDeaf", unfollowed := true, recurses := true, apart := false }
def GroupDeafSaid : Prop := groupDeafRow.holds Tryz.pinned (OpenSpec.ofChange groupDeafSpec)

/-- ITS FALSE NEIGHBOUR: 'it returns false'. Refute it at one input. -/
def groupDeafWrong : ChangeSpec := { name := "groupDeaf", fn := fun _ => fun
  | [d1, d2] => { results := [.lit (.bool false)], args := [d1, d2] }
  | _ => none }
def GroupDeafWrongFalsely : Prop := groupDeafRow.holds Tryz.pinned (OpenSpec.ofChange groupDeafWrong)

/-- 'paternosterlaw15.GroupSilent': WHATEVER THE INPUT: true; the input reads as it did. -/
def groupSilentSpec : ChangeSpec := { name := "groupSilent", fn := fun _ => fun
  | [d1, d2, d3, d4] => { results := [.lit (.bool true)], args := [d1, d2, d3, d4] }
  | _ => none }
def groupSilentRow : OpenClaim := { program := "ytnkelgdnglaafaagreat", sum := "397ee8b3c5028788be29225c267300eca4c7380234132006bb1edb94a6dfbafe", func := "paternoster/paternosterlaw15.GroupSilent", spec := "groupSilent", unfollowed := true, recurses := true, apart := false }
def GroupSilentSaid : Prop := groupSilentRow.holds Tryz.pinned (OpenSpec.ofChange groupSilentSpec)

/-- ITS FALSE NEIGHBOUR: 'it returns false'. Refute it at one input. -/
def groupSilentWrong : ChangeSpec := { name := "groupSilent", fn := fun _ => fun
  | [d1, d2, d3, d4] => { results := [.lit (.bool false)], args := [d1, d2, d3, d4] }
  | _ => none }
def GroupSilentWrongFalsely : Prop := groupSilentRow.holds Tryz.pinned (OpenSpec.ofChange groupSilentWrong)

/- THE SECOND FORM. 'bulk': how many values and letters a reading holds, each counted each time it is reached (what is shared counts as often as it is met; a slice's spare places count too). A statement '..UptoSaid' is the law's where the arguments, and the package variables that the reading takes, are together of bulk at most 1048576: NARROWER than '..Said'. Prove '..Said' where nothing that the law and all that it calls make is longer than what came in: it says more and counts as full. Else prove '..UptoSaid'. A law counts once. -/
mutual
def uptoBulk {H : Type} : DataW H → Nat
  | .lit (.string bytes) => bytes.length + 1
  | .lit _ => 1
  | .nil => 1
  | .ptr d => uptoBulk d + 1
  | .slice elems spare => uptoBulkAll elems + uptoBulkAll spare + 1
  | .agg parts => uptoBulkAll parts + 1
  | .iface _ d => uptoBulk d + 1
  | .map entries => uptoBulkEntries entries + 1
  | .held _ => 1
def uptoBulkAll {H : Type} : List (DataW H) → Nat
  | [] => 0
  | d :: r => uptoBulk d + uptoBulkAll r
def uptoBulkEntries {H : Type} : List (Lit × DataW H) → Nat
  | [] => 0
  | x :: r => uptoBulkEntry x + uptoBulkEntries r
def uptoBulkEntry {H : Type} : Lit × DataW H → Nat
  | (.string bytes, d) => bytes.length + uptoBulk d + 1
  | (_, d) => uptoBulk d + 1
 end
def uptoSmall : (H : Type) → List (DataW H) → Bool := fun _ ds => decide (uptoBulkAll ds ≤ 1048576)
def OpenSpec.upto (s : _root_.Go.ChangeSpec) : _root_.Go.OpenSpec := { _root_.Go.OpenSpec.ofChange s with cond := some uptoSmall }

/-- 'paternosterlaw15.GroupSafe', WHERE WHAT IT READS IS OF BULK AT MOST 1048576: true; the input reads as it did. -/
def groupSafeUptoRow : OpenClaim := { program := "ytnkelgdnglaafaagreat", sum := "397ee8b3c5028788be29225c267300eca4c7380234132006bb1edb94a6dfbafe", func := "paternoster/paternosterlaw15.GroupSafe", spec := "groupSafe", unfollowed := true, recurses := true, apart := false, narrowed := true }
def GroupSafeUptoSaid : Prop := groupSafeUptoRow.holds Tryz.pinned (OpenSpec.upto groupSafeSpec)

/-- 'paternosterlaw15.GroupKeeps', WHERE WHAT IT READS IS OF BULK AT MOST 1048576: true; the input reads as it did. -/
def groupKeepsUptoRow : OpenClaim := { program := "ytnkelgdnglaafaagreat", sum := "397ee8b3c5028788be29225c267300eca4c7380234132006bb1edb94a6dfbafe", func := "paternoster/paternosterlaw15.GroupKeeps", spec := "groupKeeps", unfollowed := true, recurses := true, apart := false, narrowed := true }
def GroupKeepsUptoSaid : Prop := groupKeepsUptoRow.holds Tryz.pinned (OpenSpec.upto groupKeepsSpec)

/-- 'paternosterlaw15.GroupDeaf', WHERE WHAT IT READS IS OF BULK AT MOST 1048576: true; the input reads as it did. -/
def groupDeafUptoRow : OpenClaim := { program := "ytnkelgdnglaafaagreat", sum := "397ee8b3c5028788be29225c267300eca4c7380234132006bb1edb94a6dfbafe", func := "paternoster/paternosterlaw15.GroupDeaf", spec := "groupDeaf", unfollowed := true, recurses := true, apart := false, narrowed := true }
def GroupDeafUptoSaid : Prop := groupDeafUptoRow.holds Tryz.pinned (OpenSpec.upto groupDeafSpec)

/-- 'paternosterlaw15.GroupSilent', WHERE WHAT IT READS IS OF BULK AT MOST 1048576: true; the input reads as it did. -/
def groupSilentUptoRow : OpenClaim := { program := "ytnkelgdnglaafaagreat", sum := "397ee8b3c5028788be29225c267300eca4c7380234132006bb1edb94a6dfbafe", func := "paternoster/paternosterlaw15.GroupSilent", spec := "groupSilent", unfollowed := true, recurses := true, apart := false, narrowed := true }
def GroupSilentUptoSaid : Prop := groupSilentUptoRow.holds Tryz.pinned (OpenSpec.upto groupSilentSpec)

end Rows
end Go.Proofs.YtnkelgdnglaafaaGreat
