/-
  No cell of these rows narrows 'for every input' (looked for: loops, veiled, ifaces, maps, wideKeys, modest, calm, conditions, laid).
  DERIVED. THE GIVEN ROWS OF THIS SEAT. 4 by the template 'for every input the law returns true; each argument reads behind the call as it read before'; 0 by the template 'total and deterministic' (their statements: YtjdmbldbbohdbaaTotals.lean).
  GIVEN WITH THE SEED: the statements are not yours to turn. If you find one false, say at which input.
  Laid BY PROGRAM, IN A SANDBOX (cutbox-rows.mjs): the forced cells as the released guide's own fill.sh prints them over the translation 79ef140bc71dc082… (all of the seat's roots in one cut). By AI agents, Wed Nov 11 2026. No macro, syntax, notation, axiom, sorry.
-/
import Derived.Test.YtjdmbldbbohdbaaChecked
import GoSem.Claim
import GoSem.ClaimJoined
import GoSem.ClaimMapViews
import Derived.JoinedTies
import Derived.KernelRfl
namespace Go.Proofs.Ytjdmbldbbohdbaa
/- THE CELL 'sum', in the pinned program and in every row, IS THE sha256 OF THE DUMP (.gsa) THAT YtjdmbldbbohdbaaProg.lean LOADS. Nothing in Lean hashes anything: it is a label: what it is worth is what the hold of that sum in a sandbox is worth. -/
noncomputable def Try.pinned : Pinned := { name := "ytjdmbldbbohdbaa", sum := "79ef140bc71dc0823409641dfc77ede64212b50e4e9c789dfad80c1b35939279", checked := Try.checked }
namespace Rows
def none {H : Type} : Left H := { results := [], args := [] }

/-- 'scholiumlaw11.TailMarkers': WHATEVER THE INPUT: true; the input reads as it did. -/
def tailMarkersSpec : ChangeSpec := { name := "tailMarkers", fn := fun _ => fun
  | [d1, d2, d3] => { results := [.lit (.bool true)], args := [d1, d2, d3] }
  | _ => none }
def tailMarkersRow : OpenClaim := { program := "ytjdmbldbbohdbaa", sum := "79ef140bc71dc0823409641dfc77ede64212b50e4e9c789dfad80c1b35939279", func := "scholium/scholiumlaw11.TailMarkers", spec := "tailMarkers", apart := false }
def TailMarkersSaid : Prop := tailMarkersRow.holds Try.pinned (OpenSpec.ofChange tailMarkersSpec)

/-- ITS FALSE NEIGHBOUR: 'it returns false'. Refute it at one input. -/
def tailMarkersWrong : ChangeSpec := { name := "tailMarkers", fn := fun _ => fun
  | [d1, d2, d3] => { results := [.lit (.bool false)], args := [d1, d2, d3] }
  | _ => none }
def TailMarkersWrongFalsely : Prop := tailMarkersRow.holds Try.pinned (OpenSpec.ofChange tailMarkersWrong)

/-- 'scholiumlaw11.TailRests': WHATEVER THE INPUT: true; the input reads as it did. -/
def tailRestsSpec : ChangeSpec := { name := "tailRests", fn := fun _ => fun
  | [d1, d2] => { results := [.lit (.bool true)], args := [d1, d2] }
  | _ => none }
def tailRestsRow : OpenClaim := { program := "ytjdmbldbbohdbaa", sum := "79ef140bc71dc0823409641dfc77ede64212b50e4e9c789dfad80c1b35939279", func := "scholium/scholiumlaw11.TailRests", spec := "tailRests", apart := false }
def TailRestsSaid : Prop := tailRestsRow.holds Try.pinned (OpenSpec.ofChange tailRestsSpec)

/-- ITS FALSE NEIGHBOUR: 'it returns false'. Refute it at one input. -/
def tailRestsWrong : ChangeSpec := { name := "tailRests", fn := fun _ => fun
  | [d1, d2] => { results := [.lit (.bool false)], args := [d1, d2] }
  | _ => none }
def TailRestsWrongFalsely : Prop := tailRestsRow.holds Try.pinned (OpenSpec.ofChange tailRestsWrong)

/-- 'scholiumlaw11.TailTells': WHATEVER THE INPUT: true; the input reads as it did. -/
def tailTellsSpec : ChangeSpec := { name := "tailTells", fn := fun _ => fun
  | [d1, d2] => { results := [.lit (.bool true)], args := [d1, d2] }
  | _ => none }
def tailTellsRow : OpenClaim := { program := "ytjdmbldbbohdbaa", sum := "79ef140bc71dc0823409641dfc77ede64212b50e4e9c789dfad80c1b35939279", func := "scholium/scholiumlaw11.TailTells", spec := "tailTells", apart := false }
def TailTellsSaid : Prop := tailTellsRow.holds Try.pinned (OpenSpec.ofChange tailTellsSpec)

/-- ITS FALSE NEIGHBOUR: 'it returns false'. Refute it at one input. -/
def tailTellsWrong : ChangeSpec := { name := "tailTells", fn := fun _ => fun
  | [d1, d2] => { results := [.lit (.bool false)], args := [d1, d2] }
  | _ => none }
def TailTellsWrongFalsely : Prop := tailTellsRow.holds Try.pinned (OpenSpec.ofChange tailTellsWrong)

/-- 'scholiumlaw11.TailComments': WHATEVER THE INPUT: true; the input reads as it did. -/
def tailCommentsSpec : ChangeSpec := { name := "tailComments", fn := fun _ => fun
  | [d1, d2, d3] => { results := [.lit (.bool true)], args := [d1, d2, d3] }
  | _ => none }
def tailCommentsRow : OpenClaim := { program := "ytjdmbldbbohdbaa", sum := "79ef140bc71dc0823409641dfc77ede64212b50e4e9c789dfad80c1b35939279", func := "scholium/scholiumlaw11.TailComments", spec := "tailComments", apart := false }
def TailCommentsSaid : Prop := tailCommentsRow.holds Try.pinned (OpenSpec.ofChange tailCommentsSpec)

/-- ITS FALSE NEIGHBOUR: 'it returns false'. Refute it at one input. -/
def tailCommentsWrong : ChangeSpec := { name := "tailComments", fn := fun _ => fun
  | [d1, d2, d3] => { results := [.lit (.bool false)], args := [d1, d2, d3] }
  | _ => none }
def TailCommentsWrongFalsely : Prop := tailCommentsRow.holds Try.pinned (OpenSpec.ofChange tailCommentsWrong)

/- THE SECOND FORM. 'bulk': how many values and letters a reading holds, each counted each time it is reached (what is shared counts as often as it is met; a slice's spare places count too). A statement '..UptoSaid' is the law's where the arguments, and the package variables that the reading takes, are together of bulk at most 1048576: NARROWER than '..Said'. Prove '..Said' where nothing that the law and all that it calls make is longer than what came in: it says more and counts as full. Else prove '..UptoSaid'. A law counts once. -/
mutual
def uptoBulk {H : Type} : DataW H → Nat
  | .lit (.string bytes) => bytes.length + 1
  | .lit _ => 1
  | .nil => 1
  | .ptr d => uptoBulk d + 1
  | .slice elems spare => uptoBulkAll elems + uptoBulkAll spare + 1
  | .agg parts => uptoBulkAll parts + 1
  | .iface _ d => uptoBulk d + 1
  | .map entries => uptoBulkEntries entries + 1
  | .held _ => 1
def uptoBulkAll {H : Type} : List (DataW H) → Nat
  | [] => 0
  | d :: r => uptoBulk d + uptoBulkAll r
def uptoBulkEntries {H : Type} : List (Lit × DataW H) → Nat
  | [] => 0
  | x :: r => uptoBulkEntry x + uptoBulkEntries r
def uptoBulkEntry {H : Type} : Lit × DataW H → Nat
  | (.string bytes, d) => bytes.length + uptoBulk d + 1
  | (_, d) => uptoBulk d + 1
 end
def uptoSmall : (H : Type) → List (DataW H) → Bool := fun _ ds => decide (uptoBulkAll ds ≤ 1048576)
def OpenSpec.upto (s : _root_.Go.ChangeSpec) : _root_.Go.OpenSpec := { _root_.Go.OpenSpec.ofChange s with cond := some uptoSmall }

/-- 'scholiumlaw11.TailMarkers', WHERE WHAT IT READS IS OF BULK AT MOST 1048576: true; the input reads as it did. -/
def tailMarkersUptoRow : OpenClaim := { program := "ytjdmbldbbohdbaa", sum := "79ef140bc71dc0823409641dfc77ede64212b50e4e9c789dfad80c1b35939279", func := "scholium/scholiumlaw11.TailMarkers", spec := "tailMarkers", apart := false, narrowed := true }
def TailMarkersUptoSaid : Prop := tailMarkersUptoRow.holds Try.pinned (OpenSpec.upto tailMarkersSpec)

/-- 'scholiumlaw11.TailRests', WHERE WHAT IT READS IS OF BULK AT MOST 1048576: true; the input reads as it did. -/
def tailRestsUptoRow : OpenClaim := { program := "ytjdmbldbbohdbaa", sum := "79ef140bc71dc0823409641dfc77ede64212b50e4e9c789dfad80c1b35939279", func := "scholium/scholiumlaw11.TailRests", spec := "tailRests", apart := false, narrowed := true }
def TailRestsUptoSaid : Prop := tailRestsUptoRow.holds Try.pinned (OpenSpec.upto tailRestsSpec)

/-- 'scholiumlaw11.TailTells', WHERE WHAT IT READS IS OF BULK AT MOST 1048576: true; the input reads as it did. -/
def tailTellsUptoRow : OpenClaim := { program := "ytjdmbldbbohdbaa", sum := "79ef140bc71dc0823409641dfc77ede64212b50e4e9c789dfad80c1b35939279", func := "scholium/scholiumlaw11.TailTells", spec := "tailTells", apart := false, narrowed := true }
def TailTellsUptoSaid : Prop := tailTellsUptoRow.holds Try.pinned (OpenSpec.upto tailTellsSpec)

/-- 'scholiumlaw11.TailComments', WHERE WHAT IT READS IS OF BULK AT MOST 1048576: true; the input reads as it did. -/
def tailCommentsUptoRow : OpenClaim := { program := "ytjdmbldbbohdbaa", sum := "79ef140bc71dc0823409641dfc77ede64212b50e4e9c789dfad80c1b35939279", func := "scholium/scholiumlaw11.TailComments", spec := "tailComments", apart := false, narrowed := true }
def TailCommentsUptoSaid : Prop := tailCommentsUptoRow.holds Try.pinned (OpenSpec.upto tailCommentsSpec)

end Rows
end Go.Proofs.Ytjdmbldbbohdbaa
