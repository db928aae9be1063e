/-
  No cell of these rows narrows 'for every input' (looked for: loops, veiled, ifaces, maps, wideKeys, modest, calm, conditions, laid).
  DERIVED. THE GIVEN ROWS OF THIS SEAT. 3 by the template 'for every input the law returns true; each argument reads behind the call as it read before'; 0 by the template 'total and deterministic' (their statements: YtjpkekmccbpclajTotals.lean).
  GIVEN WITH THE SEED: the statements are not yours to turn. If you find one false, say at which input.
  Laid BY PROGRAM, IN A SANDBOX (cutbox-rows.mjs): the forced cells as the released guide's own fill.sh prints them over the translation 06347d6c95c90c2c… (all of the seat's roots in one cut). By AI agents, Wed Nov 11 2026. No macro, syntax, notation, axiom, sorry.
-/
import Derived.Test.YtjpkekmccbpclajChecked
import GoSem.Claim
import GoSem.ClaimJoined
import GoSem.ClaimMapViews
import Derived.JoinedTies
import Derived.KernelRfl
namespace Go.Proofs.Ytjpkekmccbpclaj
/- THE CELL 'sum', in the pinned program and in every row, IS THE sha256 OF THE DUMP (.gsa) THAT YtjpkekmccbpclajProg.lean LOADS. Nothing in Lean hashes anything: it is a label: what it is worth is what the hold of that sum in a sandbox is worth. -/
noncomputable def Try.pinned : Pinned := { name := "ytjpkekmccbpclaj", sum := "06347d6c95c90c2c5387114a9446c134e270d727aa93401bdfb3027bfa2bfb6d", checked := Try.checked }
namespace Rows
def none {H : Type} : Left H := { results := [], args := [] }

/-- 'paternosterlaw16.SafeTicks': WHATEVER THE INPUT: true; the input reads as it did. -/
def safeTicksSpec : ChangeSpec := { name := "safeTicks", fn := fun _ => fun
  | [d1, d2, d3, d4, d5, d6] => { results := [.lit (.bool true)], args := [d1, d2, d3, d4, d5, d6] }
  | _ => none }
def safeTicksRow : OpenClaim := { program := "ytjpkekmccbpclaj", sum := "06347d6c95c90c2c5387114a9446c134e270d727aa93401bdfb3027bfa2bfb6d", func := "paternoster/paternosterlaw16.SafeTicks", spec := "safeTicks", unfollowed := true, recurses := true, plainKeys := false, apart := false }
def SafeTicksSaid : Prop := safeTicksRow.holds Try.pinned (OpenSpec.ofChange safeTicksSpec)

/-- ITS FALSE NEIGHBOUR: 'it returns false'. Refute it at one input. -/
def safeTicksWrong : ChangeSpec := { name := "safeTicks", fn := fun _ => fun
  | [d1, d2, d3, d4, d5, d6] => { results := [.lit (.bool false)], args := [d1, d2, d3, d4, d5, d6] }
  | _ => none }
def SafeTicksWrongFalsely : Prop := safeTicksRow.holds Try.pinned (OpenSpec.ofChange safeTicksWrong)

/-- 'paternosterlaw16.SafeSteps': WHATEVER THE INPUT: true; the input reads as it did. -/
def safeStepsSpec : ChangeSpec := { name := "safeSteps", fn := fun _ => fun
  | [d1, d2, d3, d4, d5] => { results := [.lit (.bool true)], args := [d1, d2, d3, d4, d5] }
  | _ => none }
def safeStepsRow : OpenClaim := { program := "ytjpkekmccbpclaj", sum := "06347d6c95c90c2c5387114a9446c134e270d727aa93401bdfb3027bfa2bfb6d", func := "paternoster/paternosterlaw16.SafeSteps", spec := "safeSteps", unfollowed := true, recurses := true, plainKeys := false, apart := false }
def SafeStepsSaid : Prop := safeStepsRow.holds Try.pinned (OpenSpec.ofChange safeStepsSpec)

/-- ITS FALSE NEIGHBOUR: 'it returns false'. Refute it at one input. -/
def safeStepsWrong : ChangeSpec := { name := "safeSteps", fn := fun _ => fun
  | [d1, d2, d3, d4, d5] => { results := [.lit (.bool false)], args := [d1, d2, d3, d4, d5] }
  | _ => none }
def SafeStepsWrongFalsely : Prop := safeStepsRow.holds Try.pinned (OpenSpec.ofChange safeStepsWrong)

/-- 'paternosterlaw16.SafeCalls': WHATEVER THE INPUT: true; the input reads as it did. -/
def safeCallsSpec : ChangeSpec := { name := "safeCalls", fn := fun _ => fun
  | [d1, d2, d3, d4, d5] => { results := [.lit (.bool true)], args := [d1, d2, d3, d4, d5] }
  | _ => none }
def safeCallsRow : OpenClaim := { program := "ytjpkekmccbpclaj", sum := "06347d6c95c90c2c5387114a9446c134e270d727aa93401bdfb3027bfa2bfb6d", func := "paternoster/paternosterlaw16.SafeCalls", spec := "safeCalls", unfollowed := true, recurses := true, plainKeys := false, apart := false }
def SafeCallsSaid : Prop := safeCallsRow.holds Try.pinned (OpenSpec.ofChange safeCallsSpec)

/-- ITS FALSE NEIGHBOUR: 'it returns false'. Refute it at one input. -/
def safeCallsWrong : ChangeSpec := { name := "safeCalls", fn := fun _ => fun
  | [d1, d2, d3, d4, d5] => { results := [.lit (.bool false)], args := [d1, d2, d3, d4, d5] }
  | _ => none }
def SafeCallsWrongFalsely : Prop := safeCallsRow.holds Try.pinned (OpenSpec.ofChange safeCallsWrong)

/- THE SECOND FORM. 'bulk': how many values and letters a reading holds, each counted each time it is reached (what is shared counts as often as it is met; a slice's spare places count too). A statement '..UptoSaid' is the law's where the arguments, and the package variables that the reading takes, are together of bulk at most 1048576: NARROWER than '..Said'. Prove '..Said' where nothing that the law and all that it calls make is longer than what came in: it says more and counts as full. Else prove '..UptoSaid'. A law counts once. -/
mutual
def uptoBulk {H : Type} : DataW H → Nat
  | .lit (.string bytes) => bytes.length + 1
  | .lit _ => 1
  | .nil => 1
  | .ptr d => uptoBulk d + 1
  | .slice elems spare => uptoBulkAll elems + uptoBulkAll spare + 1
  | .agg parts => uptoBulkAll parts + 1
  | .iface _ d => uptoBulk d + 1
  | .map entries => uptoBulkEntries entries + 1
  | .held _ => 1
def uptoBulkAll {H : Type} : List (DataW H) → Nat
  | [] => 0
  | d :: r => uptoBulk d + uptoBulkAll r
def uptoBulkEntries {H : Type} : List (Lit × DataW H) → Nat
  | [] => 0
  | x :: r => uptoBulkEntry x + uptoBulkEntries r
def uptoBulkEntry {H : Type} : Lit × DataW H → Nat
  | (.string bytes, d) => bytes.length + uptoBulk d + 1
  | (_, d) => uptoBulk d + 1
 end
def uptoSmall : (H : Type) → List (DataW H) → Bool := fun _ ds => decide (uptoBulkAll ds ≤ 1048576)
def OpenSpec.upto (s : _root_.Go.ChangeSpec) : _root_.Go.OpenSpec := { _root_.Go.OpenSpec.ofChange s with cond := some uptoSmall }

/-- 'paternosterlaw16.SafeTicks', WHERE WHAT IT READS IS OF BULK AT MOST 1048576: true; the input reads as it did. -/
def safeTicksUptoRow : OpenClaim := { program := "ytjpkekmccbpclaj", sum := "06347d6c95c90c2c5387114a9446c134e270d727aa93401bdfb3027bfa2bfb6d", func := "paternoster/paternosterlaw16.SafeTicks", spec := "safeTicks", unfollowed := true, recurses := true, plainKeys := false, apart := false, narrowed := true }
def SafeTicksUptoSaid : Prop := safeTicksUptoRow.holds Try.pinned (OpenSpec.upto safeTicksSpec)

/-- 'paternosterlaw16.SafeSteps', WHERE WHAT IT READS IS OF BULK AT MOST 1048576: true; the input reads as it did. -/
def safeStepsUptoRow : OpenClaim := { program := "ytjpkekmccbpclaj", sum := "06347d6c95c90c2c5387114a9446c134e270d727aa93401bdfb3027bfa2bfb6d", func := "paternoster/paternosterlaw16.SafeSteps", spec := "safeSteps", unfollowed := true, recurses := true, plainKeys := false, apart := false, narrowed := true }
def SafeStepsUptoSaid : Prop := safeStepsUptoRow.holds Try.pinned (OpenSpec.upto safeStepsSpec)

/-- 'paternosterlaw16.SafeCalls', WHERE WHAT IT READS IS OF BULK AT MOST 1048576: true; the input reads as it did. -/
def safeCallsUptoRow : OpenClaim := { program := "ytjpkekmccbpclaj", sum := "06347d6c95c90c2c5387114a9446c134e270d727aa93401bdfb3027bfa2bfb6d", func := "paternoster/paternosterlaw16.SafeCalls", spec := "safeCalls", unfollowed := true, recurses := true, plainKeys := false, apart := false, narrowed := true }
def SafeCallsUptoSaid : Prop := safeCallsUptoRow.holds Try.pinned (OpenSpec.upto safeCallsSpec)

end Rows
end Go.Proofs.Ytjpkekmccbpclaj
