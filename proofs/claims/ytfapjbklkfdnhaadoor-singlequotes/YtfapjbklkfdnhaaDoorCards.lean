/-
  DERIVED. GIVEN WITH THE SEED: THE CARDS: each row of YtfapjbklkfdnhaaDoorRows.lean that lists a variable, with what it lists TIED to the program's text (the seventh form; the later family's looks); each row that meets fmt, with fmt's text TOLD by the authors' own Lean function (tested against real Go, not proved from fmt's source: count such statements apart). THE CARD IS WHAT COUNTS. Prove the row's statement (the work); the ties are given (YtfapjbklkfdnhaaDoorTie.lean); close each card by the builder's one call (the guide's Derived/Test/ToyasCard.lean, 'card_holds'). Laid BY PROGRAM, IN A SANDBOX (cutbox-door.mjs). By AI agents, Wed Nov 11 2026. No macro, syntax, notation, axiom, sorry.
-/
import Derived.Test.YtfapjbklkfdnhaaDoorRows
import GoSem.ClaimSeven
namespace Go.Proofs.YtfapjbklkfdnhaaDoor
namespace Rows

/-- THE TIED CARD OF 'scholiumlaw05.SingleForms'. -/
def singleFormsCard : Claim7 := { stood := { row := singleFormsRow, standIns := [], harness := (true, "c5e4571ad1cca09650eba91c1bb4250b8a20ec4ae701ff2c2e70efc704cfcc79"), looks := false }, kinds := [], alts := [], laidByText := true, laidKinds := [.data, .pinned], laidTests := true, laidLooks := .later }
def SingleFormsCardSaid : Prop := Claim7.holds Tryd.pinned (.plain (OpenSpec.ofChange singleFormsSpec)) singleFormsCard

/-- THE TIED CARD OF 'scholiumlaw05.SingleQuotes'. -/
def singleQuotesCard : Claim7 := { stood := { row := singleQuotesRow, standIns := [], harness := (true, "c5e4571ad1cca09650eba91c1bb4250b8a20ec4ae701ff2c2e70efc704cfcc79"), looks := false }, kinds := [], alts := [], laidByText := true, laidKinds := [.data, .pinned], laidTests := true, laidLooks := .later }
def SingleQuotesCardSaid : Prop := Claim7.holds Tryd.pinned (.plain (OpenSpec.ofChange singleQuotesSpec)) singleQuotesCard

/-- THE TIED CARD OF 'scholiumlaw05.SingleTells'. -/
def singleTellsCard : Claim7 := { stood := { row := singleTellsRow, standIns := [], harness := (true, "c5e4571ad1cca09650eba91c1bb4250b8a20ec4ae701ff2c2e70efc704cfcc79"), looks := false }, kinds := [], alts := [], laidByText := true, laidKinds := [.data, .pinned], laidTests := true, laidLooks := .later }
def SingleTellsCardSaid : Prop := Claim7.holds Tryd.pinned (.plain (OpenSpec.ofChange singleTellsSpec)) singleTellsCard

/-- THE TIED CARD OF 'scholiumlaw05.SingleBack'. -/
def singleBackCard : Claim7 := { stood := { row := singleBackRow, standIns := [], harness := (true, "c5e4571ad1cca09650eba91c1bb4250b8a20ec4ae701ff2c2e70efc704cfcc79"), looks := false }, kinds := [], alts := [], laidByText := true, laidKinds := [.data, .pinned], laidTests := true, laidLooks := .later }
def SingleBackCardSaid : Prop := Claim7.holds Tryd.pinned (.plain (OpenSpec.ofChange singleBackSpec)) singleBackCard

/-- THE TIED CARD OF 'scholiumlaw05.SingleApart'. -/
def singleApartCard : Claim7 := { stood := { row := singleApartRow, standIns := [], harness := (true, "c5e4571ad1cca09650eba91c1bb4250b8a20ec4ae701ff2c2e70efc704cfcc79"), looks := false }, kinds := [], alts := [], laidByText := true, laidKinds := [.data, .pinned], laidTests := true, laidLooks := .later }
def SingleApartCardSaid : Prop := Claim7.holds Tryd.pinned (.plain (OpenSpec.ofChange singleApartSpec)) singleApartCard

/-- THE SECOND FORM's CARD OF 'scholiumlaw05.SingleForms'. -/
def singleFormsUptoCard : Claim7 := { stood := { row := singleFormsUptoRow, standIns := [], harness := (true, "c5e4571ad1cca09650eba91c1bb4250b8a20ec4ae701ff2c2e70efc704cfcc79"), looks := false }, kinds := [], alts := [], laidByText := true, laidKinds := [.data, .pinned], laidTests := true, laidLooks := .later }
def SingleFormsUptoCardSaid : Prop := Claim7.holds Tryd.pinned (.plain (OpenSpec.upto singleFormsSpec)) singleFormsUptoCard

/-- THE SECOND FORM's CARD OF 'scholiumlaw05.SingleQuotes'. -/
def singleQuotesUptoCard : Claim7 := { stood := { row := singleQuotesUptoRow, standIns := [], harness := (true, "c5e4571ad1cca09650eba91c1bb4250b8a20ec4ae701ff2c2e70efc704cfcc79"), looks := false }, kinds := [], alts := [], laidByText := true, laidKinds := [.data, .pinned], laidTests := true, laidLooks := .later }
def SingleQuotesUptoCardSaid : Prop := Claim7.holds Tryd.pinned (.plain (OpenSpec.upto singleQuotesSpec)) singleQuotesUptoCard

/-- THE SECOND FORM's CARD OF 'scholiumlaw05.SingleTells'. -/
def singleTellsUptoCard : Claim7 := { stood := { row := singleTellsUptoRow, standIns := [], harness := (true, "c5e4571ad1cca09650eba91c1bb4250b8a20ec4ae701ff2c2e70efc704cfcc79"), looks := false }, kinds := [], alts := [], laidByText := true, laidKinds := [.data, .pinned], laidTests := true, laidLooks := .later }
def SingleTellsUptoCardSaid : Prop := Claim7.holds Tryd.pinned (.plain (OpenSpec.upto singleTellsSpec)) singleTellsUptoCard

/-- THE SECOND FORM's CARD OF 'scholiumlaw05.SingleBack'. -/
def singleBackUptoCard : Claim7 := { stood := { row := singleBackUptoRow, standIns := [], harness := (true, "c5e4571ad1cca09650eba91c1bb4250b8a20ec4ae701ff2c2e70efc704cfcc79"), looks := false }, kinds := [], alts := [], laidByText := true, laidKinds := [.data, .pinned], laidTests := true, laidLooks := .later }
def SingleBackUptoCardSaid : Prop := Claim7.holds Tryd.pinned (.plain (OpenSpec.upto singleBackSpec)) singleBackUptoCard

/-- THE SECOND FORM's CARD OF 'scholiumlaw05.SingleApart'. -/
def singleApartUptoCard : Claim7 := { stood := { row := singleApartUptoRow, standIns := [], harness := (true, "c5e4571ad1cca09650eba91c1bb4250b8a20ec4ae701ff2c2e70efc704cfcc79"), looks := false }, kinds := [], alts := [], laidByText := true, laidKinds := [.data, .pinned], laidTests := true, laidLooks := .later }
def SingleApartUptoCardSaid : Prop := Claim7.holds Tryd.pinned (.plain (OpenSpec.upto singleApartSpec)) singleApartUptoCard
end Rows
end Go.Proofs.YtfapjbklkfdnhaaDoor
