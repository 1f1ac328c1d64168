/-
  DERIVED. GIVEN WITH THE SEED: THE CARDS: each row of YtnecapmnbaemiaaGreatDoorRows.lean that lists a variable, with what it lists TIED to the program's text (the seventh form; the later family's looks); each row that meets fmt, with fmt's text TOLD by the authors' own Lean function (tested against real Go, not proved from fmt's source: count such statements apart). THE CARD IS WHAT COUNTS. Prove the row's statement (the work); the ties are given (YtnecapmnbaemiaaGreatDoorTie.lean); close each card by the builder's one call (the guide's Derived/Test/ToyasCard.lean, 'card_holds'). Laid BY PROGRAM, IN A SANDBOX (cutbox-door.mjs). By AI agents, Wed Nov 11 2026. No macro, syntax, notation, axiom, sorry.
-/
import Derived.Test.YtnecapmnbaemiaaGreatDoorRows
import GoSem.ClaimSeven
namespace Go.Proofs.YtnecapmnbaemiaaGreatDoor
namespace Rows

/-- THE TIED CARD OF 'scholiumlaw14.CheckForms'. -/
def checkFormsCard : Claim7 := { stood := { row := checkFormsRow, standIns := [], harness := (true, "344d43ccb330f5c9bfa6b815fba73f3813ab96e83cb29d99768c0348247aab23"), looks := false }, kinds := [], alts := [], laidByText := true, laidKinds := [.data, .data, .pinned], laidTests := true, laidLooks := .later }
def CheckFormsCardSaid : Prop := Claim7.holds Tryz.pinned (.plain (OpenSpec.ofChange checkFormsSpec)) checkFormsCard

/-- THE TIED CARD OF 'scholiumlaw14.CheckCircles'. -/
def checkCirclesCard : Claim7 := { stood := { row := checkCirclesRow, standIns := [], harness := (true, "344d43ccb330f5c9bfa6b815fba73f3813ab96e83cb29d99768c0348247aab23"), looks := false }, kinds := [], alts := [], laidByText := true, laidKinds := [.data, .data, .pinned], laidTests := true, laidLooks := .later }
def CheckCirclesCardSaid : Prop := Claim7.holds Tryz.pinned (.plain (OpenSpec.ofChange checkCirclesSpec)) checkCirclesCard

/-- THE SECOND FORM's CARD OF 'scholiumlaw14.CheckForms'. -/
def checkFormsUptoCard : Claim7 := { stood := { row := checkFormsUptoRow, standIns := [], harness := (true, "344d43ccb330f5c9bfa6b815fba73f3813ab96e83cb29d99768c0348247aab23"), looks := false }, kinds := [], alts := [], laidByText := true, laidKinds := [.data, .data, .pinned], laidTests := true, laidLooks := .later }
def CheckFormsUptoCardSaid : Prop := Claim7.holds Tryz.pinned (.plain (OpenSpec.upto checkFormsSpec)) checkFormsUptoCard

/-- THE SECOND FORM's CARD OF 'scholiumlaw14.CheckCircles'. -/
def checkCirclesUptoCard : Claim7 := { stood := { row := checkCirclesUptoRow, standIns := [], harness := (true, "344d43ccb330f5c9bfa6b815fba73f3813ab96e83cb29d99768c0348247aab23"), looks := false }, kinds := [], alts := [], laidByText := true, laidKinds := [.data, .data, .pinned], laidTests := true, laidLooks := .later }
def CheckCirclesUptoCardSaid : Prop := Claim7.holds Tryz.pinned (.plain (OpenSpec.upto checkCirclesSpec)) checkCirclesUptoCard
end Rows
end Go.Proofs.YtnecapmnbaemiaaGreatDoor
