/-
  DERIVED. GIVEN WITH THE SEED: THE CARDS: each row of YtocjegmacpmpoaaGreatDoorRows.lean that lists a variable, with what it lists TIED to the program's text (the seventh form; the later family's looks); each row that meets fmt, with fmt's text TOLD by the authors' own Lean function (tested against real Go, not proved from fmt's source: count such statements apart). THE CARD IS WHAT COUNTS. Prove the row's statement (the work); the ties are given (YtocjegmacpmpoaaGreatDoorTie.lean); close each card by the builder's one call (the guide's Derived/Test/ToyasCard.lean, 'card_holds'). Laid BY PROGRAM, IN A SANDBOX (cutbox-door.mjs). By AI agents, Wed Nov 11 2026. No macro, syntax, notation, axiom, sorry.
-/
import Derived.Test.YtocjegmacpmpoaaGreatDoorRows
import GoSem.ClaimSeven
namespace Go.Proofs.YtocjegmacpmpoaaGreatDoor
namespace Rows

/-- THE TIED CARD OF 'scholiumlaw12.InlineParts'. -/
def inlinePartsCard : Claim7 := { stood := { row := inlinePartsRow, standIns := [], harness := (true, "5386a357bab227d37026cd594ddba446b339da503d7c645c7399ba97084ed683"), looks := false }, kinds := [], alts := [], laidByText := true, laidKinds := [.data, .data, .pinned], laidTests := true, laidLooks := .later }
def InlinePartsCardSaid : Prop := Claim7.holds Tryz.pinned (.plain (OpenSpec.ofChange inlinePartsSpec)) inlinePartsCard

/-- THE TIED CARD OF 'scholiumlaw12.InlineParses'. -/
def inlineParsesCard : Claim7 := { stood := { row := inlineParsesRow, standIns := [], harness := (true, "5386a357bab227d37026cd594ddba446b339da503d7c645c7399ba97084ed683"), looks := false }, kinds := [], alts := [], laidByText := true, laidKinds := [.data, .data, .pinned], laidTests := true, laidLooks := .later }
def InlineParsesCardSaid : Prop := Claim7.holds Tryz.pinned (.plain (OpenSpec.ofChange inlineParsesSpec)) inlineParsesCard

/-- THE TIED CARD OF 'scholiumlaw12.InlineSpans'. -/
def inlineSpansCard : Claim7 := { stood := { row := inlineSpansRow, standIns := [], harness := (true, "5386a357bab227d37026cd594ddba446b339da503d7c645c7399ba97084ed683"), looks := false }, kinds := [], alts := [], laidByText := true, laidKinds := [.data, .data, .pinned], laidTests := true, laidLooks := .later }
def InlineSpansCardSaid : Prop := Claim7.holds Tryz.pinned (.plain (OpenSpec.ofChange inlineSpansSpec)) inlineSpansCard

/-- THE SECOND FORM's CARD OF 'scholiumlaw12.InlineParts'. -/
def inlinePartsUptoCard : Claim7 := { stood := { row := inlinePartsUptoRow, standIns := [], harness := (true, "5386a357bab227d37026cd594ddba446b339da503d7c645c7399ba97084ed683"), looks := false }, kinds := [], alts := [], laidByText := true, laidKinds := [.data, .data, .pinned], laidTests := true, laidLooks := .later }
def InlinePartsUptoCardSaid : Prop := Claim7.holds Tryz.pinned (.plain (OpenSpec.upto inlinePartsSpec)) inlinePartsUptoCard

/-- THE SECOND FORM's CARD OF 'scholiumlaw12.InlineParses'. -/
def inlineParsesUptoCard : Claim7 := { stood := { row := inlineParsesUptoRow, standIns := [], harness := (true, "5386a357bab227d37026cd594ddba446b339da503d7c645c7399ba97084ed683"), looks := false }, kinds := [], alts := [], laidByText := true, laidKinds := [.data, .data, .pinned], laidTests := true, laidLooks := .later }
def InlineParsesUptoCardSaid : Prop := Claim7.holds Tryz.pinned (.plain (OpenSpec.upto inlineParsesSpec)) inlineParsesUptoCard

/-- THE SECOND FORM's CARD OF 'scholiumlaw12.InlineSpans'. -/
def inlineSpansUptoCard : Claim7 := { stood := { row := inlineSpansUptoRow, standIns := [], harness := (true, "5386a357bab227d37026cd594ddba446b339da503d7c645c7399ba97084ed683"), looks := false }, kinds := [], alts := [], laidByText := true, laidKinds := [.data, .data, .pinned], laidTests := true, laidLooks := .later }
def InlineSpansUptoCardSaid : Prop := Claim7.holds Tryz.pinned (.plain (OpenSpec.upto inlineSpansSpec)) inlineSpansUptoCard
end Rows
end Go.Proofs.YtocjegmacpmpoaaGreatDoor
