/-
  DERIVED. GIVEN WITH THE SEED: THE CARDS: each row of YtdjpdcjljpmfnaaDoorRows.lean that lists a variable, with what it lists TIED to the program's text (the seventh form; the later family's looks); each row that meets fmt, with fmt's text TOLD by the authors' own Lean function (tested against real Go, not proved from fmt's source: count such statements apart). THE CARD IS WHAT COUNTS. Prove the row's statement (the work); the ties are given (YtdjpdcjljpmfnaaDoorTie.lean); close each card by the builder's one call (the guide's Derived/Test/ToyasCard.lean, 'card_holds'). Laid BY PROGRAM, IN A SANDBOX (cutbox-door.mjs). By AI agents, Wed Nov 11 2026. No macro, syntax, notation, axiom, sorry.
-/
import Derived.Test.YtdjpdcjljpmfnaaDoorRows
import GoSem.ClaimSeven
namespace Go.Proofs.YtdjpdcjljpmfnaaDoor
namespace Rows

/-- THE TIED CARD OF 'scholiumlaw09.StyleKeys'. -/
def styleKeysCard : Claim7 := { stood := { row := styleKeysRow, standIns := [], harness := (true, "8985d1c63413ed726e3e50b5feea4ab5e2db93c40bc21c1980bccf415171d9a9"), looks := false }, kinds := [], alts := [], laidByText := true, laidKinds := [.data, .data, .pinned], laidTests := true, laidLooks := .later }
def StyleKeysCardSaid : Prop := Claim7.holds Tryd.pinned (.plain (OpenSpec.ofChange styleKeysSpec)) styleKeysCard

/-- THE TIED CARD OF 'scholiumlaw09.StyleTells'. -/
def styleTellsCard : Claim7 := { stood := { row := styleTellsRow, standIns := [], harness := (true, "8985d1c63413ed726e3e50b5feea4ab5e2db93c40bc21c1980bccf415171d9a9"), looks := false }, kinds := [], alts := [], laidByText := true, laidKinds := [.data, .data, .pinned], laidTests := true, laidLooks := .later }
def StyleTellsCardSaid : Prop := Claim7.holds Tryd.pinned (.plain (OpenSpec.ofChange styleTellsSpec)) styleTellsCard

/-- THE TIED CARD OF 'scholiumlaw09.StyleBack'. -/
def styleBackCard : Claim7 := { stood := { row := styleBackRow, standIns := [], harness := (true, "8985d1c63413ed726e3e50b5feea4ab5e2db93c40bc21c1980bccf415171d9a9"), looks := false }, kinds := [], alts := [], laidByText := true, laidKinds := [.data, .data, .pinned], laidTests := true, laidLooks := .later }
def StyleBackCardSaid : Prop := Claim7.holds Tryd.pinned (.plain (OpenSpec.ofChange styleBackSpec)) styleBackCard

/-- THE SECOND FORM's CARD OF 'scholiumlaw09.StyleKeys'. -/
def styleKeysUptoCard : Claim7 := { stood := { row := styleKeysUptoRow, standIns := [], harness := (true, "8985d1c63413ed726e3e50b5feea4ab5e2db93c40bc21c1980bccf415171d9a9"), looks := false }, kinds := [], alts := [], laidByText := true, laidKinds := [.data, .data, .pinned], laidTests := true, laidLooks := .later }
def StyleKeysUptoCardSaid : Prop := Claim7.holds Tryd.pinned (.plain (OpenSpec.upto styleKeysSpec)) styleKeysUptoCard

/-- THE SECOND FORM's CARD OF 'scholiumlaw09.StyleTells'. -/
def styleTellsUptoCard : Claim7 := { stood := { row := styleTellsUptoRow, standIns := [], harness := (true, "8985d1c63413ed726e3e50b5feea4ab5e2db93c40bc21c1980bccf415171d9a9"), looks := false }, kinds := [], alts := [], laidByText := true, laidKinds := [.data, .data, .pinned], laidTests := true, laidLooks := .later }
def StyleTellsUptoCardSaid : Prop := Claim7.holds Tryd.pinned (.plain (OpenSpec.upto styleTellsSpec)) styleTellsUptoCard

/-- THE SECOND FORM's CARD OF 'scholiumlaw09.StyleBack'. -/
def styleBackUptoCard : Claim7 := { stood := { row := styleBackUptoRow, standIns := [], harness := (true, "8985d1c63413ed726e3e50b5feea4ab5e2db93c40bc21c1980bccf415171d9a9"), looks := false }, kinds := [], alts := [], laidByText := true, laidKinds := [.data, .data, .pinned], laidTests := true, laidLooks := .later }
def StyleBackUptoCardSaid : Prop := Claim7.holds Tryd.pinned (.plain (OpenSpec.upto styleBackSpec)) styleBackUptoCard
end Rows
end Go.Proofs.YtdjpdcjljpmfnaaDoor
