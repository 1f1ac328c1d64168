/-
  DERIVED. GIVEN WITH THE SEED: THE CARDS: each row of YtclgahmgoiobaaaGreatDoorRows.lean that lists a variable, with what it lists TIED to the program's text (the seventh form; the later family's looks); each row that meets fmt, with fmt's text TOLD by the authors' own Lean function (tested against real Go, not proved from fmt's source: count such statements apart). THE CARD IS WHAT COUNTS. Prove the row's statement (the work); the ties are given (YtclgahmgoiobaaaGreatDoorTie.lean); close each card by the builder's one call (the guide's Derived/Test/ToyasCard.lean, 'card_holds'). Laid BY PROGRAM, IN A SANDBOX (cutbox-door.mjs). By AI agents, Wed Nov 11 2026. No macro, syntax, notation, axiom, sorry.
-/
import Derived.Test.YtclgahmgoiobaaaGreatDoorRows
import GoSem.ClaimSeven
namespace Go.Proofs.YtclgahmgoiobaaaGreatDoor
namespace Rows

/-- THE TIED CARD OF 'scholiumlaw12.InlineForms'. -/
def inlineFormsCard : Claim7 := { stood := { row := inlineFormsRow, standIns := [], harness := (true, "4c36b2f9cd6a1b99684a7d4c76e052a99f27488d72e5643796983d408aa86e83"), looks := false }, kinds := [], alts := [], laidByText := true, laidKinds := [.data, .data, .pinned], laidTests := true, laidLooks := .later }
def InlineFormsCardSaid : Prop := Claim7.holds Tryz.pinned (.plain (OpenSpec.ofChange inlineFormsSpec)) inlineFormsCard

/-- THE TIED CARD OF 'scholiumlaw12.InlineTags'. -/
def inlineTagsCard : Claim7 := { stood := { row := inlineTagsRow, standIns := [], harness := (true, "4c36b2f9cd6a1b99684a7d4c76e052a99f27488d72e5643796983d408aa86e83"), looks := false }, kinds := [], alts := [], laidByText := true, laidKinds := [.data, .data, .pinned], laidTests := true, laidLooks := .later }
def InlineTagsCardSaid : Prop := Claim7.holds Tryz.pinned (.plain (OpenSpec.ofChange inlineTagsSpec)) inlineTagsCard

/-- THE TIED CARD OF 'scholiumlaw12.InlineKeys'. -/
def inlineKeysCard : Claim7 := { stood := { row := inlineKeysRow, standIns := [], harness := (true, "4c36b2f9cd6a1b99684a7d4c76e052a99f27488d72e5643796983d408aa86e83"), looks := false }, kinds := [], alts := [], laidByText := true, laidKinds := [.data, .data, .pinned], laidTests := true, laidLooks := .later }
def InlineKeysCardSaid : Prop := Claim7.holds Tryz.pinned (.plain (OpenSpec.ofChange inlineKeysSpec)) inlineKeysCard

/-- THE TIED CARD OF 'scholiumlaw12.InlineParts'. -/
def inlinePartsCard : Claim7 := { stood := { row := inlinePartsRow, standIns := [], harness := (true, "4c36b2f9cd6a1b99684a7d4c76e052a99f27488d72e5643796983d408aa86e83"), looks := false }, kinds := [], alts := [], laidByText := true, laidKinds := [.data, .data, .pinned], laidTests := true, laidLooks := .later }
def InlinePartsCardSaid : Prop := Claim7.holds Tryz.pinned (.plain (OpenSpec.ofChange inlinePartsSpec)) inlinePartsCard

/-- THE TIED CARD OF 'scholiumlaw12.InlineParses'. -/
def inlineParsesCard : Claim7 := { stood := { row := inlineParsesRow, standIns := [], harness := (true, "4c36b2f9cd6a1b99684a7d4c76e052a99f27488d72e5643796983d408aa86e83"), looks := false }, kinds := [], alts := [], laidByText := true, laidKinds := [.data, .data, .pinned], laidTests := true, laidLooks := .later }
def InlineParsesCardSaid : Prop := Claim7.holds Tryz.pinned (.plain (OpenSpec.ofChange inlineParsesSpec)) inlineParsesCard

/-- THE TIED CARD OF 'scholiumlaw12.InlineDeep'. -/
def inlineDeepCard : Claim7 := { stood := { row := inlineDeepRow, standIns := [], harness := (true, "4c36b2f9cd6a1b99684a7d4c76e052a99f27488d72e5643796983d408aa86e83"), looks := false }, kinds := [], alts := [], laidByText := true, laidKinds := [.data, .data, .pinned], laidTests := true, laidLooks := .later }
def InlineDeepCardSaid : Prop := Claim7.holds Tryz.pinned (.plain (OpenSpec.ofChange inlineDeepSpec)) inlineDeepCard

/-- THE TIED CARD OF 'scholiumlaw12.InlineSpans'. -/
def inlineSpansCard : Claim7 := { stood := { row := inlineSpansRow, standIns := [], harness := (true, "4c36b2f9cd6a1b99684a7d4c76e052a99f27488d72e5643796983d408aa86e83"), looks := false }, kinds := [], alts := [], laidByText := true, laidKinds := [.data, .data, .pinned], laidTests := true, laidLooks := .later }
def InlineSpansCardSaid : Prop := Claim7.holds Tryz.pinned (.plain (OpenSpec.ofChange inlineSpansSpec)) inlineSpansCard

/-- THE TIED CARD OF 'scholiumlaw12.InlineStyles'. -/
def inlineStylesCard : Claim7 := { stood := { row := inlineStylesRow, standIns := [], harness := (true, "4c36b2f9cd6a1b99684a7d4c76e052a99f27488d72e5643796983d408aa86e83"), looks := false }, kinds := [], alts := [], laidByText := true, laidKinds := [.data, .data, .pinned], laidTests := true, laidLooks := .later }
def InlineStylesCardSaid : Prop := Claim7.holds Tryz.pinned (.plain (OpenSpec.ofChange inlineStylesSpec)) inlineStylesCard

/-- THE SECOND FORM's CARD OF 'scholiumlaw12.InlineForms'. -/
def inlineFormsUptoCard : Claim7 := { stood := { row := inlineFormsUptoRow, standIns := [], harness := (true, "4c36b2f9cd6a1b99684a7d4c76e052a99f27488d72e5643796983d408aa86e83"), looks := false }, kinds := [], alts := [], laidByText := true, laidKinds := [.data, .data, .pinned], laidTests := true, laidLooks := .later }
def InlineFormsUptoCardSaid : Prop := Claim7.holds Tryz.pinned (.plain (OpenSpec.upto inlineFormsSpec)) inlineFormsUptoCard

/-- THE SECOND FORM's CARD OF 'scholiumlaw12.InlineTags'. -/
def inlineTagsUptoCard : Claim7 := { stood := { row := inlineTagsUptoRow, standIns := [], harness := (true, "4c36b2f9cd6a1b99684a7d4c76e052a99f27488d72e5643796983d408aa86e83"), looks := false }, kinds := [], alts := [], laidByText := true, laidKinds := [.data, .data, .pinned], laidTests := true, laidLooks := .later }
def InlineTagsUptoCardSaid : Prop := Claim7.holds Tryz.pinned (.plain (OpenSpec.upto inlineTagsSpec)) inlineTagsUptoCard

/-- THE SECOND FORM's CARD OF 'scholiumlaw12.InlineKeys'. -/
def inlineKeysUptoCard : Claim7 := { stood := { row := inlineKeysUptoRow, standIns := [], harness := (true, "4c36b2f9cd6a1b99684a7d4c76e052a99f27488d72e5643796983d408aa86e83"), looks := false }, kinds := [], alts := [], laidByText := true, laidKinds := [.data, .data, .pinned], laidTests := true, laidLooks := .later }
def InlineKeysUptoCardSaid : Prop := Claim7.holds Tryz.pinned (.plain (OpenSpec.upto inlineKeysSpec)) inlineKeysUptoCard

/-- THE SECOND FORM's CARD OF 'scholiumlaw12.InlineParts'. -/
def inlinePartsUptoCard : Claim7 := { stood := { row := inlinePartsUptoRow, standIns := [], harness := (true, "4c36b2f9cd6a1b99684a7d4c76e052a99f27488d72e5643796983d408aa86e83"), looks := false }, kinds := [], alts := [], laidByText := true, laidKinds := [.data, .data, .pinned], laidTests := true, laidLooks := .later }
def InlinePartsUptoCardSaid : Prop := Claim7.holds Tryz.pinned (.plain (OpenSpec.upto inlinePartsSpec)) inlinePartsUptoCard

/-- THE SECOND FORM's CARD OF 'scholiumlaw12.InlineParses'. -/
def inlineParsesUptoCard : Claim7 := { stood := { row := inlineParsesUptoRow, standIns := [], harness := (true, "4c36b2f9cd6a1b99684a7d4c76e052a99f27488d72e5643796983d408aa86e83"), looks := false }, kinds := [], alts := [], laidByText := true, laidKinds := [.data, .data, .pinned], laidTests := true, laidLooks := .later }
def InlineParsesUptoCardSaid : Prop := Claim7.holds Tryz.pinned (.plain (OpenSpec.upto inlineParsesSpec)) inlineParsesUptoCard

/-- THE SECOND FORM's CARD OF 'scholiumlaw12.InlineDeep'. -/
def inlineDeepUptoCard : Claim7 := { stood := { row := inlineDeepUptoRow, standIns := [], harness := (true, "4c36b2f9cd6a1b99684a7d4c76e052a99f27488d72e5643796983d408aa86e83"), looks := false }, kinds := [], alts := [], laidByText := true, laidKinds := [.data, .data, .pinned], laidTests := true, laidLooks := .later }
def InlineDeepUptoCardSaid : Prop := Claim7.holds Tryz.pinned (.plain (OpenSpec.upto inlineDeepSpec)) inlineDeepUptoCard

/-- THE SECOND FORM's CARD OF 'scholiumlaw12.InlineSpans'. -/
def inlineSpansUptoCard : Claim7 := { stood := { row := inlineSpansUptoRow, standIns := [], harness := (true, "4c36b2f9cd6a1b99684a7d4c76e052a99f27488d72e5643796983d408aa86e83"), looks := false }, kinds := [], alts := [], laidByText := true, laidKinds := [.data, .data, .pinned], laidTests := true, laidLooks := .later }
def InlineSpansUptoCardSaid : Prop := Claim7.holds Tryz.pinned (.plain (OpenSpec.upto inlineSpansSpec)) inlineSpansUptoCard

/-- THE SECOND FORM's CARD OF 'scholiumlaw12.InlineStyles'. -/
def inlineStylesUptoCard : Claim7 := { stood := { row := inlineStylesUptoRow, standIns := [], harness := (true, "4c36b2f9cd6a1b99684a7d4c76e052a99f27488d72e5643796983d408aa86e83"), looks := false }, kinds := [], alts := [], laidByText := true, laidKinds := [.data, .data, .pinned], laidTests := true, laidLooks := .later }
def InlineStylesUptoCardSaid : Prop := Claim7.holds Tryz.pinned (.plain (OpenSpec.upto inlineStylesSpec)) inlineStylesUptoCard
end Rows
end Go.Proofs.YtclgahmgoiobaaaGreatDoor
