/-
  DERIVED. GIVEN WITH THE SEED: THE CARDS: each row of YthhmaaeijbofbaaDoorRows.lean that lists a variable, with what it lists TIED to the program's text (the seventh form; the later family's looks); each row that meets fmt, with fmt's text TOLD by the authors' own Lean function (tested against real Go, not proved from fmt's source: count such statements apart). THE CARD IS WHAT COUNTS. Prove the row's statement (the work); the ties are given (YthhmaaeijbofbaaDoorTie.lean); close each card by the builder's one call (the guide's Derived/Test/ToyasCard.lean, 'card_holds'). Laid BY PROGRAM, IN A SANDBOX (cutbox-door.mjs). By AI agents, Wed Nov 11 2026. No macro, syntax, notation, axiom, sorry.
-/
import Derived.Test.YthhmaaeijbofbaaDoorRows
import GoSem.ClaimSeven
namespace Go.Proofs.YthhmaaeijbofbaaDoor
namespace Rows

/-- THE TIED CARD OF 'paternosterlaw18.TaleLines'. -/
def taleLinesCard : Claim7 := { stood := { row := taleLinesRow, standIns := [], harness := (true, "30ecd5029f7c366a2aa9fac0ed507cc9a3a5f6bfc1bc9716484d998c80424a2f"), looks := true }, kinds := [], alts := [], laidByText := true, laidKinds := [.data, .data, .data, .data, .sentinel, .sentinel, .pinned], laidTests := true, laidLooks := .later }
def TaleLinesCardSaid : Prop := Claim7.holds Tryd.pinned (.plain (OpenSpec.ofChange taleLinesSpec)) taleLinesCard

/-- THE TIED CARD OF 'paternosterlaw18.TaleReads'. -/
def taleReadsCard : Claim7 := { stood := { row := taleReadsRow, standIns := [], harness := (true, "30ecd5029f7c366a2aa9fac0ed507cc9a3a5f6bfc1bc9716484d998c80424a2f"), looks := true }, kinds := [], alts := [], laidByText := true, laidKinds := [.data, .data, .data, .data, .sentinel, .sentinel, .pinned], laidTests := true, laidLooks := .later }
def TaleReadsCardSaid : Prop := Claim7.holds Tryd.pinned (.plain (OpenSpec.ofChange taleReadsSpec)) taleReadsCard

/-- THE TIED CARD OF 'paternosterlaw18.TaleOne'. -/
def taleOneCard : Claim7 := { stood := { row := taleOneRow, standIns := [], harness := (true, "30ecd5029f7c366a2aa9fac0ed507cc9a3a5f6bfc1bc9716484d998c80424a2f"), looks := true }, kinds := [], alts := [], laidByText := true, laidKinds := [.data, .data, .data], laidTests := true, laidLooks := .later }
def TaleOneCardSaid : Prop := Claim7.holds Tryd.pinned (.plain (OpenSpec.ofChange taleOneSpec)) taleOneCard

/-- THE SECOND FORM's CARD OF 'paternosterlaw18.TaleLines'. -/
def taleLinesUptoCard : Claim7 := { stood := { row := taleLinesUptoRow, standIns := [], harness := (true, "30ecd5029f7c366a2aa9fac0ed507cc9a3a5f6bfc1bc9716484d998c80424a2f"), looks := true }, kinds := [], alts := [], laidByText := true, laidKinds := [.data, .data, .data, .data, .sentinel, .sentinel, .pinned], laidTests := true, laidLooks := .later }
def TaleLinesUptoCardSaid : Prop := Claim7.holds Tryd.pinned (.plain (OpenSpec.upto taleLinesSpec)) taleLinesUptoCard

/-- THE SECOND FORM's CARD OF 'paternosterlaw18.TaleReads'. -/
def taleReadsUptoCard : Claim7 := { stood := { row := taleReadsUptoRow, standIns := [], harness := (true, "30ecd5029f7c366a2aa9fac0ed507cc9a3a5f6bfc1bc9716484d998c80424a2f"), looks := true }, kinds := [], alts := [], laidByText := true, laidKinds := [.data, .data, .data, .data, .sentinel, .sentinel, .pinned], laidTests := true, laidLooks := .later }
def TaleReadsUptoCardSaid : Prop := Claim7.holds Tryd.pinned (.plain (OpenSpec.upto taleReadsSpec)) taleReadsUptoCard

/-- THE SECOND FORM's CARD OF 'paternosterlaw18.TaleOne'. -/
def taleOneUptoCard : Claim7 := { stood := { row := taleOneUptoRow, standIns := [], harness := (true, "30ecd5029f7c366a2aa9fac0ed507cc9a3a5f6bfc1bc9716484d998c80424a2f"), looks := true }, kinds := [], alts := [], laidByText := true, laidKinds := [.data, .data, .data], laidTests := true, laidLooks := .later }
def TaleOneUptoCardSaid : Prop := Claim7.holds Tryd.pinned (.plain (OpenSpec.upto taleOneSpec)) taleOneUptoCard
end Rows
end Go.Proofs.YthhmaaeijbofbaaDoor
