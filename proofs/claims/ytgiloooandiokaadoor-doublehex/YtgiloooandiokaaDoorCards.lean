/-
  DERIVED. GIVEN WITH THE SEED: THE CARDS: each row of YtgiloooandiokaaDoorRows.lean that lists a variable, with what it lists TIED to the program's text (the seventh form; the later family's looks); each row that meets fmt, with fmt's text TOLD by the authors' own Lean function (tested against real Go, not proved from fmt's source: count such statements apart). THE CARD IS WHAT COUNTS. Prove the row's statement (the work); the ties are given (YtgiloooandiokaaDoorTie.lean); close each card by the builder's one call (the guide's Derived/Test/ToyasCard.lean, 'card_holds'). Laid BY PROGRAM, IN A SANDBOX (cutbox-door.mjs). By AI agents, Wed Nov 11 2026. No macro, syntax, notation, axiom, sorry.
-/
import Derived.Test.YtgiloooandiokaaDoorRows
import GoSem.ClaimSeven
namespace Go.Proofs.YtgiloooandiokaaDoor
namespace Rows

/-- THE TIED CARD OF 'scholiumlaw06.DoubleEscapes'. -/
def doubleEscapesCard : Claim7 := { stood := { row := doubleEscapesRow, standIns := [], harness := (true, "ab909530bb952c5f780ce0eaafa1f0b2631ff06e5414448791499cdd5477867f"), looks := false }, kinds := [], alts := [], laidByText := true, laidKinds := [.data], laidTests := true, laidLooks := .later }
def DoubleEscapesCardSaid : Prop := Claim7.holds Tryd.pinned (.plain (OpenSpec.ofChange doubleEscapesSpec)) doubleEscapesCard

/-- THE TIED CARD OF 'scholiumlaw06.DoubleForms'. -/
def doubleFormsCard : Claim7 := { stood := { row := doubleFormsRow, standIns := [], harness := (true, "ab909530bb952c5f780ce0eaafa1f0b2631ff06e5414448791499cdd5477867f"), looks := false }, kinds := [], alts := [], laidByText := true, laidKinds := [.data], laidTests := true, laidLooks := .later }
def DoubleFormsCardSaid : Prop := Claim7.holds Tryd.pinned (.plain (OpenSpec.ofChange doubleFormsSpec)) doubleFormsCard

/-- THE TIED CARD OF 'scholiumlaw06.DoubleHex'. -/
def doubleHexCard : Claim7 := { stood := { row := doubleHexRow, standIns := [], harness := (true, "ab909530bb952c5f780ce0eaafa1f0b2631ff06e5414448791499cdd5477867f"), looks := false }, kinds := [], alts := [], laidByText := true, laidKinds := [.data], laidTests := true, laidLooks := .later }
def DoubleHexCardSaid : Prop := Claim7.holds Tryd.pinned (.plain (OpenSpec.ofChange doubleHexSpec)) doubleHexCard

/-- THE TIED CARD OF 'scholiumlaw06.DoubleTells'. -/
def doubleTellsCard : Claim7 := { stood := { row := doubleTellsRow, standIns := [], harness := (true, "ab909530bb952c5f780ce0eaafa1f0b2631ff06e5414448791499cdd5477867f"), looks := false }, kinds := [], alts := [], laidByText := true, laidKinds := [.data], laidTests := true, laidLooks := .later }
def DoubleTellsCardSaid : Prop := Claim7.holds Tryd.pinned (.plain (OpenSpec.ofChange doubleTellsSpec)) doubleTellsCard

/-- THE TIED CARD OF 'scholiumlaw06.DoubleBack'. -/
def doubleBackCard : Claim7 := { stood := { row := doubleBackRow, standIns := [], harness := (true, "ab909530bb952c5f780ce0eaafa1f0b2631ff06e5414448791499cdd5477867f"), looks := false }, kinds := [], alts := [], laidByText := true, laidKinds := [.data], laidTests := true, laidLooks := .later }
def DoubleBackCardSaid : Prop := Claim7.holds Tryd.pinned (.plain (OpenSpec.ofChange doubleBackSpec)) doubleBackCard

/-- THE TIED CARD OF 'scholiumlaw06.DoubleRunes'. -/
def doubleRunesCard : Claim7 := { stood := { row := doubleRunesRow, standIns := [], harness := (true, "ab909530bb952c5f780ce0eaafa1f0b2631ff06e5414448791499cdd5477867f"), looks := false }, kinds := [], alts := [], laidByText := true, laidKinds := [.data], laidTests := true, laidLooks := .later }
def DoubleRunesCardSaid : Prop := Claim7.holds Tryd.pinned (.plain (OpenSpec.ofChange doubleRunesSpec)) doubleRunesCard

/-- THE TIED CARD OF 'scholiumlaw06.DoubleApart'. -/
def doubleApartCard : Claim7 := { stood := { row := doubleApartRow, standIns := [], harness := (true, "ab909530bb952c5f780ce0eaafa1f0b2631ff06e5414448791499cdd5477867f"), looks := false }, kinds := [], alts := [], laidByText := true, laidKinds := [.data], laidTests := true, laidLooks := .later }
def DoubleApartCardSaid : Prop := Claim7.holds Tryd.pinned (.plain (OpenSpec.ofChange doubleApartSpec)) doubleApartCard

/-- THE SECOND FORM's CARD OF 'scholiumlaw06.DoubleEscapes'. -/
def doubleEscapesUptoCard : Claim7 := { stood := { row := doubleEscapesUptoRow, standIns := [], harness := (true, "ab909530bb952c5f780ce0eaafa1f0b2631ff06e5414448791499cdd5477867f"), looks := false }, kinds := [], alts := [], laidByText := true, laidKinds := [.data], laidTests := true, laidLooks := .later }
def DoubleEscapesUptoCardSaid : Prop := Claim7.holds Tryd.pinned (.plain (OpenSpec.upto doubleEscapesSpec)) doubleEscapesUptoCard

/-- THE SECOND FORM's CARD OF 'scholiumlaw06.DoubleForms'. -/
def doubleFormsUptoCard : Claim7 := { stood := { row := doubleFormsUptoRow, standIns := [], harness := (true, "ab909530bb952c5f780ce0eaafa1f0b2631ff06e5414448791499cdd5477867f"), looks := false }, kinds := [], alts := [], laidByText := true, laidKinds := [.data], laidTests := true, laidLooks := .later }
def DoubleFormsUptoCardSaid : Prop := Claim7.holds Tryd.pinned (.plain (OpenSpec.upto doubleFormsSpec)) doubleFormsUptoCard

/-- THE SECOND FORM's CARD OF 'scholiumlaw06.DoubleHex'. -/
def doubleHexUptoCard : Claim7 := { stood := { row := doubleHexUptoRow, standIns := [], harness := (true, "ab909530bb952c5f780ce0eaafa1f0b2631ff06e5414448791499cdd5477867f"), looks := false }, kinds := [], alts := [], laidByText := true, laidKinds := [.data], laidTests := true, laidLooks := .later }
def DoubleHexUptoCardSaid : Prop := Claim7.holds Tryd.pinned (.plain (OpenSpec.upto doubleHexSpec)) doubleHexUptoCard

/-- THE SECOND FORM's CARD OF 'scholiumlaw06.DoubleTells'. -/
def doubleTellsUptoCard : Claim7 := { stood := { row := doubleTellsUptoRow, standIns := [], harness := (true, "ab909530bb952c5f780ce0eaafa1f0b2631ff06e5414448791499cdd5477867f"), looks := false }, kinds := [], alts := [], laidByText := true, laidKinds := [.data], laidTests := true, laidLooks := .later }
def DoubleTellsUptoCardSaid : Prop := Claim7.holds Tryd.pinned (.plain (OpenSpec.upto doubleTellsSpec)) doubleTellsUptoCard

/-- THE SECOND FORM's CARD OF 'scholiumlaw06.DoubleBack'. -/
def doubleBackUptoCard : Claim7 := { stood := { row := doubleBackUptoRow, standIns := [], harness := (true, "ab909530bb952c5f780ce0eaafa1f0b2631ff06e5414448791499cdd5477867f"), looks := false }, kinds := [], alts := [], laidByText := true, laidKinds := [.data], laidTests := true, laidLooks := .later }
def DoubleBackUptoCardSaid : Prop := Claim7.holds Tryd.pinned (.plain (OpenSpec.upto doubleBackSpec)) doubleBackUptoCard

/-- THE SECOND FORM's CARD OF 'scholiumlaw06.DoubleRunes'. -/
def doubleRunesUptoCard : Claim7 := { stood := { row := doubleRunesUptoRow, standIns := [], harness := (true, "ab909530bb952c5f780ce0eaafa1f0b2631ff06e5414448791499cdd5477867f"), looks := false }, kinds := [], alts := [], laidByText := true, laidKinds := [.data], laidTests := true, laidLooks := .later }
def DoubleRunesUptoCardSaid : Prop := Claim7.holds Tryd.pinned (.plain (OpenSpec.upto doubleRunesSpec)) doubleRunesUptoCard

/-- THE SECOND FORM's CARD OF 'scholiumlaw06.DoubleApart'. -/
def doubleApartUptoCard : Claim7 := { stood := { row := doubleApartUptoRow, standIns := [], harness := (true, "ab909530bb952c5f780ce0eaafa1f0b2631ff06e5414448791499cdd5477867f"), looks := false }, kinds := [], alts := [], laidByText := true, laidKinds := [.data], laidTests := true, laidLooks := .later }
def DoubleApartUptoCardSaid : Prop := Claim7.holds Tryd.pinned (.plain (OpenSpec.upto doubleApartSpec)) doubleApartUptoCard
end Rows
end Go.Proofs.YtgiloooandiokaaDoor
