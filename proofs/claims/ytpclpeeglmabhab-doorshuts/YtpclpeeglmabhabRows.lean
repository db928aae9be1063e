/-
  No cell of these rows narrows 'for every input' (looked for: loops, veiled, ifaces, maps, wideKeys, modest, calm, conditions, laid).
  DERIVED. THE GIVEN ROWS OF THIS SEAT. 6 by the template 'for every input the law returns true; each argument reads behind the call as it read before'; 0 by the template 'total and deterministic' (their statements: YtpclpeeglmabhabTotals.lean).
  GIVEN WITH THE SEED: the statements are not yours to turn. If you find one false, say at which input.
  Laid BY PROGRAM, IN A SANDBOX (cutbox-rows.mjs): the forced cells as the released guide's own fill.sh prints them over the translation b76e59b2f00f8300… (all of the seat's roots in one cut). By AI agents, Wed Nov 11 2026. No macro, syntax, notation, axiom, sorry.
-/
import Derived.Test.YtpclpeeglmabhabChecked
import GoSem.Claim
import GoSem.ClaimJoined
import GoSem.ClaimMapViews
import Derived.JoinedTies
import Derived.KernelRfl
namespace Go.Proofs.Ytpclpeeglmabhab
/- THE CELL 'sum', in the pinned program and in every row, IS THE sha256 OF THE DUMP (.gsa) THAT YtpclpeeglmabhabProg.lean LOADS. Nothing in Lean hashes anything: it is a label: what it is worth is what the hold of that sum in a sandbox is worth. -/
noncomputable def Try.pinned : Pinned := { name := "ytpclpeeglmabhab", sum := "b76e59b2f00f83005397f74326b6effe11007fcb9e772ec087f5943f498031cd", checked := Try.checked }
namespace Rows
def none {H : Type} : Left H := { results := [], args := [] }

/-- 'paternosterlaw03.SiteTold': WHATEVER THE INPUT: true; the input reads as it did. -/
def siteToldSpec : ChangeSpec := { name := "siteTold", fn := fun _ => fun
  | [d1, d2, d3, d4] => { results := [.lit (.bool true)], args := [d1, d2, d3, d4] }
  | _ => none }
def siteToldRow : OpenClaim := { program := "ytpclpeeglmabhab", sum := "b76e59b2f00f83005397f74326b6effe11007fcb9e772ec087f5943f498031cd", func := "paternoster/paternosterlaw03.SiteTold", spec := "siteTold", unfollowed := true, recurses := true, apart := false }
def SiteToldSaid : Prop := siteToldRow.holds Try.pinned (OpenSpec.ofChange siteToldSpec)

/-- ITS FALSE NEIGHBOUR: 'it returns false'. Refute it at one input. -/
def siteToldWrong : ChangeSpec := { name := "siteTold", fn := fun _ => fun
  | [d1, d2, d3, d4] => { results := [.lit (.bool false)], args := [d1, d2, d3, d4] }
  | _ => none }
def SiteToldWrongFalsely : Prop := siteToldRow.holds Try.pinned (OpenSpec.ofChange siteToldWrong)

/-- 'paternosterlaw03.SiteWays': WHATEVER THE INPUT: true; the input reads as it did. -/
def siteWaysSpec : ChangeSpec := { name := "siteWays", fn := fun _ => fun
  | [d1, d2, d3, d4, d5] => { results := [.lit (.bool true)], args := [d1, d2, d3, d4, d5] }
  | _ => none }
def siteWaysRow : OpenClaim := { program := "ytpclpeeglmabhab", sum := "b76e59b2f00f83005397f74326b6effe11007fcb9e772ec087f5943f498031cd", func := "paternoster/paternosterlaw03.SiteWays", spec := "siteWays", unfollowed := true, recurses := true, apart := false }
def SiteWaysSaid : Prop := siteWaysRow.holds Try.pinned (OpenSpec.ofChange siteWaysSpec)

/-- ITS FALSE NEIGHBOUR: 'it returns false'. Refute it at one input. -/
def siteWaysWrong : ChangeSpec := { name := "siteWays", fn := fun _ => fun
  | [d1, d2, d3, d4, d5] => { results := [.lit (.bool false)], args := [d1, d2, d3, d4, d5] }
  | _ => none }
def SiteWaysWrongFalsely : Prop := siteWaysRow.holds Try.pinned (OpenSpec.ofChange siteWaysWrong)

/-- 'paternosterlaw03.SiteGrows': WHATEVER THE INPUT: true; the input reads as it did. -/
def siteGrowsSpec : ChangeSpec := { name := "siteGrows", fn := fun _ => fun
  | [d1, d2, d3] => { results := [.lit (.bool true)], args := [d1, d2, d3] }
  | _ => none }
def siteGrowsRow : OpenClaim := { program := "ytpclpeeglmabhab", sum := "b76e59b2f00f83005397f74326b6effe11007fcb9e772ec087f5943f498031cd", func := "paternoster/paternosterlaw03.SiteGrows", spec := "siteGrows", unfollowed := true, recurses := true, apart := false }
def SiteGrowsSaid : Prop := siteGrowsRow.holds Try.pinned (OpenSpec.ofChange siteGrowsSpec)

/-- ITS FALSE NEIGHBOUR: 'it returns false'. Refute it at one input. -/
def siteGrowsWrong : ChangeSpec := { name := "siteGrows", fn := fun _ => fun
  | [d1, d2, d3] => { results := [.lit (.bool false)], args := [d1, d2, d3] }
  | _ => none }
def SiteGrowsWrongFalsely : Prop := siteGrowsRow.holds Try.pinned (OpenSpec.ofChange siteGrowsWrong)

/-- 'paternosterlaw04.DoorSteps': WHATEVER THE INPUT: true; the input reads as it did. -/
def doorStepsSpec : ChangeSpec := { name := "doorSteps", fn := fun _ => fun
  | [d1, d2, d3] => { results := [.lit (.bool true)], args := [d1, d2, d3] }
  | _ => none }
def doorStepsRow : OpenClaim := { program := "ytpclpeeglmabhab", sum := "b76e59b2f00f83005397f74326b6effe11007fcb9e772ec087f5943f498031cd", func := "paternoster/paternosterlaw04.DoorSteps", spec := "doorSteps", unfollowed := true, recurses := true, apart := false }
def DoorStepsSaid : Prop := doorStepsRow.holds Try.pinned (OpenSpec.ofChange doorStepsSpec)

/-- ITS FALSE NEIGHBOUR: 'it returns false'. Refute it at one input. -/
def doorStepsWrong : ChangeSpec := { name := "doorSteps", fn := fun _ => fun
  | [d1, d2, d3] => { results := [.lit (.bool false)], args := [d1, d2, d3] }
  | _ => none }
def DoorStepsWrongFalsely : Prop := doorStepsRow.holds Try.pinned (OpenSpec.ofChange doorStepsWrong)

/-- 'paternosterlaw04.DoorShuts': WHATEVER THE INPUT: true; the input reads as it did. -/
def doorShutsSpec : ChangeSpec := { name := "doorShuts", fn := fun _ => fun
  | [d1, d2, d3] => { results := [.lit (.bool true)], args := [d1, d2, d3] }
  | _ => none }
def doorShutsRow : OpenClaim := { program := "ytpclpeeglmabhab", sum := "b76e59b2f00f83005397f74326b6effe11007fcb9e772ec087f5943f498031cd", func := "paternoster/paternosterlaw04.DoorShuts", spec := "doorShuts", apart := false }
def DoorShutsSaid : Prop := doorShutsRow.holds Try.pinned (OpenSpec.ofChange doorShutsSpec)

/-- ITS FALSE NEIGHBOUR: 'it returns false'. Refute it at one input. -/
def doorShutsWrong : ChangeSpec := { name := "doorShuts", fn := fun _ => fun
  | [d1, d2, d3] => { results := [.lit (.bool false)], args := [d1, d2, d3] }
  | _ => none }
def DoorShutsWrongFalsely : Prop := doorShutsRow.holds Try.pinned (OpenSpec.ofChange doorShutsWrong)

/-- 'paternosterlaw04.DoorFree': WHATEVER THE INPUT: true; the input reads as it did. -/
def doorFreeSpec : ChangeSpec := { name := "doorFree", fn := fun _ => fun
  | [d1, d2] => { results := [.lit (.bool true)], args := [d1, d2] }
  | _ => none }
def doorFreeRow : OpenClaim := { program := "ytpclpeeglmabhab", sum := "b76e59b2f00f83005397f74326b6effe11007fcb9e772ec087f5943f498031cd", func := "paternoster/paternosterlaw04.DoorFree", spec := "doorFree", apart := false }
def DoorFreeSaid : Prop := doorFreeRow.holds Try.pinned (OpenSpec.ofChange doorFreeSpec)

/-- ITS FALSE NEIGHBOUR: 'it returns false'. Refute it at one input. -/
def doorFreeWrong : ChangeSpec := { name := "doorFree", fn := fun _ => fun
  | [d1, d2] => { results := [.lit (.bool false)], args := [d1, d2] }
  | _ => none }
def DoorFreeWrongFalsely : Prop := doorFreeRow.holds Try.pinned (OpenSpec.ofChange doorFreeWrong)

/- THE SECOND FORM. 'bulk': how many values and letters a reading holds, each counted each time it is reached (what is shared counts as often as it is met; a slice's spare places count too). A statement '..UptoSaid' is the law's where the arguments, and the package variables that the reading takes, are together of bulk at most 1048576: NARROWER than '..Said'. Prove '..Said' where nothing that the law and all that it calls make is longer than what came in: it says more and counts as full. Else prove '..UptoSaid'. A law counts once. -/
mutual
def uptoBulk {H : Type} : DataW H → Nat
  | .lit (.string bytes) => bytes.length + 1
  | .lit _ => 1
  | .nil => 1
  | .ptr d => uptoBulk d + 1
  | .slice elems spare => uptoBulkAll elems + uptoBulkAll spare + 1
  | .agg parts => uptoBulkAll parts + 1
  | .iface _ d => uptoBulk d + 1
  | .map entries => uptoBulkEntries entries + 1
  | .held _ => 1
def uptoBulkAll {H : Type} : List (DataW H) → Nat
  | [] => 0
  | d :: r => uptoBulk d + uptoBulkAll r
def uptoBulkEntries {H : Type} : List (Lit × DataW H) → Nat
  | [] => 0
  | x :: r => uptoBulkEntry x + uptoBulkEntries r
def uptoBulkEntry {H : Type} : Lit × DataW H → Nat
  | (.string bytes, d) => bytes.length + uptoBulk d + 1
  | (_, d) => uptoBulk d + 1
 end
def uptoSmall : (H : Type) → List (DataW H) → Bool := fun _ ds => decide (uptoBulkAll ds ≤ 1048576)
def OpenSpec.upto (s : _root_.Go.ChangeSpec) : _root_.Go.OpenSpec := { _root_.Go.OpenSpec.ofChange s with cond := some uptoSmall }

/-- 'paternosterlaw03.SiteTold', WHERE WHAT IT READS IS OF BULK AT MOST 1048576: true; the input reads as it did. -/
def siteToldUptoRow : OpenClaim := { program := "ytpclpeeglmabhab", sum := "b76e59b2f00f83005397f74326b6effe11007fcb9e772ec087f5943f498031cd", func := "paternoster/paternosterlaw03.SiteTold", spec := "siteTold", unfollowed := true, recurses := true, apart := false, narrowed := true }
def SiteToldUptoSaid : Prop := siteToldUptoRow.holds Try.pinned (OpenSpec.upto siteToldSpec)

/-- 'paternosterlaw03.SiteWays', WHERE WHAT IT READS IS OF BULK AT MOST 1048576: true; the input reads as it did. -/
def siteWaysUptoRow : OpenClaim := { program := "ytpclpeeglmabhab", sum := "b76e59b2f00f83005397f74326b6effe11007fcb9e772ec087f5943f498031cd", func := "paternoster/paternosterlaw03.SiteWays", spec := "siteWays", unfollowed := true, recurses := true, apart := false, narrowed := true }
def SiteWaysUptoSaid : Prop := siteWaysUptoRow.holds Try.pinned (OpenSpec.upto siteWaysSpec)

/-- 'paternosterlaw03.SiteGrows', WHERE WHAT IT READS IS OF BULK AT MOST 1048576: true; the input reads as it did. -/
def siteGrowsUptoRow : OpenClaim := { program := "ytpclpeeglmabhab", sum := "b76e59b2f00f83005397f74326b6effe11007fcb9e772ec087f5943f498031cd", func := "paternoster/paternosterlaw03.SiteGrows", spec := "siteGrows", unfollowed := true, recurses := true, apart := false, narrowed := true }
def SiteGrowsUptoSaid : Prop := siteGrowsUptoRow.holds Try.pinned (OpenSpec.upto siteGrowsSpec)

/-- 'paternosterlaw04.DoorSteps', WHERE WHAT IT READS IS OF BULK AT MOST 1048576: true; the input reads as it did. -/
def doorStepsUptoRow : OpenClaim := { program := "ytpclpeeglmabhab", sum := "b76e59b2f00f83005397f74326b6effe11007fcb9e772ec087f5943f498031cd", func := "paternoster/paternosterlaw04.DoorSteps", spec := "doorSteps", unfollowed := true, recurses := true, apart := false, narrowed := true }
def DoorStepsUptoSaid : Prop := doorStepsUptoRow.holds Try.pinned (OpenSpec.upto doorStepsSpec)

/-- 'paternosterlaw04.DoorShuts', WHERE WHAT IT READS IS OF BULK AT MOST 1048576: true; the input reads as it did. -/
def doorShutsUptoRow : OpenClaim := { program := "ytpclpeeglmabhab", sum := "b76e59b2f00f83005397f74326b6effe11007fcb9e772ec087f5943f498031cd", func := "paternoster/paternosterlaw04.DoorShuts", spec := "doorShuts", apart := false, narrowed := true }
def DoorShutsUptoSaid : Prop := doorShutsUptoRow.holds Try.pinned (OpenSpec.upto doorShutsSpec)

/-- 'paternosterlaw04.DoorFree', WHERE WHAT IT READS IS OF BULK AT MOST 1048576: true; the input reads as it did. -/
def doorFreeUptoRow : OpenClaim := { program := "ytpclpeeglmabhab", sum := "b76e59b2f00f83005397f74326b6effe11007fcb9e772ec087f5943f498031cd", func := "paternoster/paternosterlaw04.DoorFree", spec := "doorFree", apart := false, narrowed := true }
def DoorFreeUptoSaid : Prop := doorFreeUptoRow.holds Try.pinned (OpenSpec.upto doorFreeSpec)

end Rows
end Go.Proofs.Ytpclpeeglmabhab
