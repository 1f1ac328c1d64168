/-
  DERIVED. GIVEN WITH THE SEED: THE CARDS: each row of YtijclnjiibblaaaDoorRows.lean that lists a variable, with what it lists TIED to the program's text (the seventh form; the later family's looks); each row that meets fmt, with fmt's text TOLD by the authors' own Lean function (tested against real Go, not proved from fmt's source: count such statements apart). THE CARD IS WHAT COUNTS. Prove the row's statement (the work); the ties are given (YtijclnjiibblaaaDoorTie.lean); close each card by the builder's one call (the guide's Derived/Test/ToyasCard.lean, 'card_holds'). Laid BY PROGRAM, IN A SANDBOX (cutbox-door.mjs). By AI agents, Wed Nov 11 2026. No macro, syntax, notation, axiom, sorry.
-/
import Derived.Test.YtijclnjiibblaaaDoorRows
import GoSem.ClaimSeven
namespace Go.Proofs.YtijclnjiibblaaaDoor
namespace Rows

/-- THE TIED CARD OF 'scholiumlaw08.SchemaNumbers'. -/
def schemaNumbersCard : Claim7 := { stood := { row := schemaNumbersRow, standIns := [], harness := (true, "12ba9469dea4a61ed39d4fd763e582fde901584c9749bd5f353be433d1f306d1"), looks := false }, kinds := [], alts := [], laidByText := true, laidKinds := [.data, .pinned], laidTests := true, laidLooks := .later }
def SchemaNumbersCardSaid : Prop := Claim7.holds Tryd.pinned (.plain (OpenSpec.ofChange schemaNumbersSpec)) schemaNumbersCard

/-- THE TIED CARD OF 'scholiumlaw08.SchemaOnce'. -/
def schemaOnceCard : Claim7 := { stood := { row := schemaOnceRow, standIns := [], harness := (true, "12ba9469dea4a61ed39d4fd763e582fde901584c9749bd5f353be433d1f306d1"), looks := false }, kinds := [], alts := [], laidByText := true, laidKinds := [.data, .pinned], laidTests := true, laidLooks := .later }
def SchemaOnceCardSaid : Prop := Claim7.holds Tryd.pinned (.plain (OpenSpec.ofChange schemaOnceSpec)) schemaOnceCard

/-- THE TIED CARD OF 'scholiumlaw08.SchemaTells'. -/
def schemaTellsCard : Claim7 := { stood := { row := schemaTellsRow, standIns := [], harness := (true, "12ba9469dea4a61ed39d4fd763e582fde901584c9749bd5f353be433d1f306d1"), looks := false }, kinds := [], alts := [], laidByText := true, laidKinds := [.data, .pinned], laidTests := true, laidLooks := .later }
def SchemaTellsCardSaid : Prop := Claim7.holds Tryd.pinned (.plain (OpenSpec.ofChange schemaTellsSpec)) schemaTellsCard

/-- THE TIED CARD OF 'scholiumlaw08.SchemaSigns'. -/
def schemaSignsCard : Claim7 := { stood := { row := schemaSignsRow, standIns := [], harness := (true, "12ba9469dea4a61ed39d4fd763e582fde901584c9749bd5f353be433d1f306d1"), looks := false }, kinds := [], alts := [], laidByText := true, laidKinds := [.data, .pinned], laidTests := true, laidLooks := .later }
def SchemaSignsCardSaid : Prop := Claim7.holds Tryd.pinned (.plain (OpenSpec.ofChange schemaSignsSpec)) schemaSignsCard

/-- THE TIED CARD OF 'scholiumlaw08.SchemaForms'. -/
def schemaFormsCard : Claim7 := { stood := { row := schemaFormsRow, standIns := [], harness := (true, "12ba9469dea4a61ed39d4fd763e582fde901584c9749bd5f353be433d1f306d1"), looks := false }, kinds := [], alts := [], laidByText := true, laidKinds := [.data, .pinned], laidTests := true, laidLooks := .later }
def SchemaFormsCardSaid : Prop := Claim7.holds Tryd.pinned (.plain (OpenSpec.ofChange schemaFormsSpec)) schemaFormsCard

/-- THE SECOND FORM's CARD OF 'scholiumlaw08.SchemaNumbers'. -/
def schemaNumbersUptoCard : Claim7 := { stood := { row := schemaNumbersUptoRow, standIns := [], harness := (true, "12ba9469dea4a61ed39d4fd763e582fde901584c9749bd5f353be433d1f306d1"), looks := false }, kinds := [], alts := [], laidByText := true, laidKinds := [.data, .pinned], laidTests := true, laidLooks := .later }
def SchemaNumbersUptoCardSaid : Prop := Claim7.holds Tryd.pinned (.plain (OpenSpec.upto schemaNumbersSpec)) schemaNumbersUptoCard

/-- THE SECOND FORM's CARD OF 'scholiumlaw08.SchemaOnce'. -/
def schemaOnceUptoCard : Claim7 := { stood := { row := schemaOnceUptoRow, standIns := [], harness := (true, "12ba9469dea4a61ed39d4fd763e582fde901584c9749bd5f353be433d1f306d1"), looks := false }, kinds := [], alts := [], laidByText := true, laidKinds := [.data, .pinned], laidTests := true, laidLooks := .later }
def SchemaOnceUptoCardSaid : Prop := Claim7.holds Tryd.pinned (.plain (OpenSpec.upto schemaOnceSpec)) schemaOnceUptoCard

/-- THE SECOND FORM's CARD OF 'scholiumlaw08.SchemaTells'. -/
def schemaTellsUptoCard : Claim7 := { stood := { row := schemaTellsUptoRow, standIns := [], harness := (true, "12ba9469dea4a61ed39d4fd763e582fde901584c9749bd5f353be433d1f306d1"), looks := false }, kinds := [], alts := [], laidByText := true, laidKinds := [.data, .pinned], laidTests := true, laidLooks := .later }
def SchemaTellsUptoCardSaid : Prop := Claim7.holds Tryd.pinned (.plain (OpenSpec.upto schemaTellsSpec)) schemaTellsUptoCard

/-- THE SECOND FORM's CARD OF 'scholiumlaw08.SchemaSigns'. -/
def schemaSignsUptoCard : Claim7 := { stood := { row := schemaSignsUptoRow, standIns := [], harness := (true, "12ba9469dea4a61ed39d4fd763e582fde901584c9749bd5f353be433d1f306d1"), looks := false }, kinds := [], alts := [], laidByText := true, laidKinds := [.data, .pinned], laidTests := true, laidLooks := .later }
def SchemaSignsUptoCardSaid : Prop := Claim7.holds Tryd.pinned (.plain (OpenSpec.upto schemaSignsSpec)) schemaSignsUptoCard

/-- THE SECOND FORM's CARD OF 'scholiumlaw08.SchemaForms'. -/
def schemaFormsUptoCard : Claim7 := { stood := { row := schemaFormsUptoRow, standIns := [], harness := (true, "12ba9469dea4a61ed39d4fd763e582fde901584c9749bd5f353be433d1f306d1"), looks := false }, kinds := [], alts := [], laidByText := true, laidKinds := [.data, .pinned], laidTests := true, laidLooks := .later }
def SchemaFormsUptoCardSaid : Prop := Claim7.holds Tryd.pinned (.plain (OpenSpec.upto schemaFormsSpec)) schemaFormsUptoCard
end Rows
end Go.Proofs.YtijclnjiibblaaaDoor
