/-
  No cell of these rows narrows 'for every input' (looked for: loops, veiled, ifaces, maps, wideKeys, modest, calm, conditions, laid).
  DERIVED. THE GIVEN ROWS OF THIS SEAT. 8 by the template 'for every input the law returns true; each argument reads behind the call as it read before'; 0 by the template 'total and deterministic' (their statements: YtpcbpblckecfiaaTotals.lean).
  GIVEN WITH THE SEED: the statements are not yours to turn. If you find one false, say at which input.
  Laid BY PROGRAM, IN A SANDBOX (cutbox-rows.mjs): the forced cells as the released guide's own fill.sh prints them over the translation 740930de06c950e6… (all of the seat's roots in one cut). By AI agents, Wed Nov 11 2026. No macro, syntax, notation, axiom, sorry.
-/
import Derived.Test.YtpcbpblckecfiaaChecked
import GoSem.Claim
import GoSem.ClaimJoined
import GoSem.ClaimMapViews
import Derived.JoinedTies
import Derived.KernelRfl
namespace Go.Proofs.Ytpcbpblckecfiaa
/- THE CELL 'sum', in the pinned program and in every row, IS THE sha256 OF THE DUMP (.gsa) THAT YtpcbpblckecfiaaProg.lean LOADS. Nothing in Lean hashes anything: it is a label: what it is worth is what the hold of that sum in a sandbox is worth. -/
noncomputable def Try.pinned : Pinned := { name := "ytpcbpblckecfiaa", sum := "740930de06c950e685f2413e90f48001334d89ea897ade97a2be85d04f2fa38e", checked := Try.checked }
namespace Rows
def none {H : Type} : Left H := { results := [], args := [] }

/-- 'scholiumlaw01.CharsBack': WHATEVER THE INPUT: true; the input reads as it did. -/
def charsBackSpec : ChangeSpec := { name := "charsBack", fn := fun _ => fun
  | [d1, d2, d3] => { results := [.lit (.bool true)], args := [d1, d2, d3] }
  | _ => none }
def charsBackRow : OpenClaim := { program := "ytpcbpblckecfiaa", sum := "740930de06c950e685f2413e90f48001334d89ea897ade97a2be85d04f2fa38e", func := "scholium/scholiumlaw01.CharsBack", spec := "charsBack", apart := false }
def CharsBackSaid : Prop := charsBackRow.holds Try.pinned (OpenSpec.ofChange charsBackSpec)

/-- ITS FALSE NEIGHBOUR: 'it returns false'. Refute it at one input. -/
def charsBackWrong : ChangeSpec := { name := "charsBack", fn := fun _ => fun
  | [d1, d2, d3] => { results := [.lit (.bool false)], args := [d1, d2, d3] }
  | _ => none }
def CharsBackWrongFalsely : Prop := charsBackRow.holds Try.pinned (OpenSpec.ofChange charsBackWrong)

/-- 'scholiumlaw01.CharsKinds': WHATEVER THE INPUT: true; the input reads as it did. -/
def charsKindsSpec : ChangeSpec := { name := "charsKinds", fn := fun _ => fun
  | [d] => { results := [.lit (.bool true)], args := [d] }
  | _ => none }
def charsKindsRow : OpenClaim := { program := "ytpcbpblckecfiaa", sum := "740930de06c950e685f2413e90f48001334d89ea897ade97a2be85d04f2fa38e", func := "scholium/scholiumlaw01.CharsKinds", spec := "charsKinds", apart := false }
def CharsKindsSaid : Prop := charsKindsRow.holds Try.pinned (OpenSpec.ofChange charsKindsSpec)

/-- ITS FALSE NEIGHBOUR: 'it returns false'. Refute it at one input. -/
def charsKindsWrong : ChangeSpec := { name := "charsKinds", fn := fun _ => fun
  | [d] => { results := [.lit (.bool false)], args := [d] }
  | _ => none }
def CharsKindsWrongFalsely : Prop := charsKindsRow.holds Try.pinned (OpenSpec.ofChange charsKindsWrong)

/-- 'scholiumlaw01.CharsReturns': WHATEVER THE INPUT: true; the input reads as it did. -/
def charsReturnsSpec : ChangeSpec := { name := "charsReturns", fn := fun _ => fun
  | [d1, d2] => { results := [.lit (.bool true)], args := [d1, d2] }
  | _ => none }
def charsReturnsRow : OpenClaim := { program := "ytpcbpblckecfiaa", sum := "740930de06c950e685f2413e90f48001334d89ea897ade97a2be85d04f2fa38e", func := "scholium/scholiumlaw01.CharsReturns", spec := "charsReturns", apart := false }
def CharsReturnsSaid : Prop := charsReturnsRow.holds Try.pinned (OpenSpec.ofChange charsReturnsSpec)

/-- ITS FALSE NEIGHBOUR: 'it returns false'. Refute it at one input. -/
def charsReturnsWrong : ChangeSpec := { name := "charsReturns", fn := fun _ => fun
  | [d1, d2] => { results := [.lit (.bool false)], args := [d1, d2] }
  | _ => none }
def CharsReturnsWrongFalsely : Prop := charsReturnsRow.holds Try.pinned (OpenSpec.ofChange charsReturnsWrong)

/-- 'scholiumlaw01.CharsNames': WHATEVER THE INPUT: true; the input reads as it did. -/
def charsNamesSpec : ChangeSpec := { name := "charsNames", fn := fun _ => fun
  | [d1, d2, d3] => { results := [.lit (.bool true)], args := [d1, d2, d3] }
  | _ => none }
def charsNamesRow : OpenClaim := { program := "ytpcbpblckecfiaa", sum := "740930de06c950e685f2413e90f48001334d89ea897ade97a2be85d04f2fa38e", func := "scholium/scholiumlaw01.CharsNames", spec := "charsNames", apart := false }
def CharsNamesSaid : Prop := charsNamesRow.holds Try.pinned (OpenSpec.ofChange charsNamesSpec)

/-- ITS FALSE NEIGHBOUR: 'it returns false'. Refute it at one input. -/
def charsNamesWrong : ChangeSpec := { name := "charsNames", fn := fun _ => fun
  | [d1, d2, d3] => { results := [.lit (.bool false)], args := [d1, d2, d3] }
  | _ => none }
def CharsNamesWrongFalsely : Prop := charsNamesRow.holds Try.pinned (OpenSpec.ofChange charsNamesWrong)

/-- 'scholiumlaw01.CharsRunes': WHATEVER THE INPUT: true; the input reads as it did. -/
def charsRunesSpec : ChangeSpec := { name := "charsRunes", fn := fun _ => fun
  | [d1, d2] => { results := [.lit (.bool true)], args := [d1, d2] }
  | _ => none }
def charsRunesRow : OpenClaim := { program := "ytpcbpblckecfiaa", sum := "740930de06c950e685f2413e90f48001334d89ea897ade97a2be85d04f2fa38e", func := "scholium/scholiumlaw01.CharsRunes", spec := "charsRunes", apart := false }
def CharsRunesSaid : Prop := charsRunesRow.holds Try.pinned (OpenSpec.ofChange charsRunesSpec)

/-- ITS FALSE NEIGHBOUR: 'it returns false'. Refute it at one input. -/
def charsRunesWrong : ChangeSpec := { name := "charsRunes", fn := fun _ => fun
  | [d1, d2] => { results := [.lit (.bool false)], args := [d1, d2] }
  | _ => none }
def CharsRunesWrongFalsely : Prop := charsRunesRow.holds Try.pinned (OpenSpec.ofChange charsRunesWrong)

/-- 'scholiumlaw01.CharsChecks': WHATEVER THE INPUT: true; the input reads as it did. -/
def charsChecksSpec : ChangeSpec := { name := "charsChecks", fn := fun _ => fun
  | [d1, d2, d3, d4] => { results := [.lit (.bool true)], args := [d1, d2, d3, d4] }
  | _ => none }
def charsChecksRow : OpenClaim := { program := "ytpcbpblckecfiaa", sum := "740930de06c950e685f2413e90f48001334d89ea897ade97a2be85d04f2fa38e", func := "scholium/scholiumlaw01.CharsChecks", spec := "charsChecks", apart := false }
def CharsChecksSaid : Prop := charsChecksRow.holds Try.pinned (OpenSpec.ofChange charsChecksSpec)

/-- ITS FALSE NEIGHBOUR: 'it returns false'. Refute it at one input. -/
def charsChecksWrong : ChangeSpec := { name := "charsChecks", fn := fun _ => fun
  | [d1, d2, d3, d4] => { results := [.lit (.bool false)], args := [d1, d2, d3, d4] }
  | _ => none }
def CharsChecksWrongFalsely : Prop := charsChecksRow.holds Try.pinned (OpenSpec.ofChange charsChecksWrong)

/-- 'scholiumlaw01.CharsWhole': WHATEVER THE INPUT: true; the input reads as it did. -/
def charsWholeSpec : ChangeSpec := { name := "charsWhole", fn := fun _ => fun
  | [d1, d2, d3] => { results := [.lit (.bool true)], args := [d1, d2, d3] }
  | _ => none }
def charsWholeRow : OpenClaim := { program := "ytpcbpblckecfiaa", sum := "740930de06c950e685f2413e90f48001334d89ea897ade97a2be85d04f2fa38e", func := "scholium/scholiumlaw01.CharsWhole", spec := "charsWhole", apart := false }
def CharsWholeSaid : Prop := charsWholeRow.holds Try.pinned (OpenSpec.ofChange charsWholeSpec)

/-- ITS FALSE NEIGHBOUR: 'it returns false'. Refute it at one input. -/
def charsWholeWrong : ChangeSpec := { name := "charsWhole", fn := fun _ => fun
  | [d1, d2, d3] => { results := [.lit (.bool false)], args := [d1, d2, d3] }
  | _ => none }
def CharsWholeWrongFalsely : Prop := charsWholeRow.holds Try.pinned (OpenSpec.ofChange charsWholeWrong)

/-- 'scholiumlaw01.CharsLong': WHATEVER THE INPUT: true; the input reads as it did. -/
def charsLongSpec : ChangeSpec := { name := "charsLong", fn := fun _ => fun
  | [d] => { results := [.lit (.bool true)], args := [d] }
  | _ => none }
def charsLongRow : OpenClaim := { program := "ytpcbpblckecfiaa", sum := "740930de06c950e685f2413e90f48001334d89ea897ade97a2be85d04f2fa38e", func := "scholium/scholiumlaw01.CharsLong", spec := "charsLong", apart := false }
def CharsLongSaid : Prop := charsLongRow.holds Try.pinned (OpenSpec.ofChange charsLongSpec)

/-- ITS FALSE NEIGHBOUR: 'it returns false'. Refute it at one input. -/
def charsLongWrong : ChangeSpec := { name := "charsLong", fn := fun _ => fun
  | [d] => { results := [.lit (.bool false)], args := [d] }
  | _ => none }
def CharsLongWrongFalsely : Prop := charsLongRow.holds Try.pinned (OpenSpec.ofChange charsLongWrong)

/- THE SECOND FORM. 'bulk': how many values and letters a reading holds, each counted each time it is reached (what is shared counts as often as it is met; a slice's spare places count too). A statement '..UptoSaid' is the law's where the arguments, and the package variables that the reading takes, are together of bulk at most 1048576: NARROWER than '..Said'. Prove '..Said' where nothing that the law and all that it calls make is longer than what came in: it says more and counts as full. Else prove '..UptoSaid'. A law counts once. -/
mutual
def uptoBulk {H : Type} : DataW H → Nat
  | .lit (.string bytes) => bytes.length + 1
  | .lit _ => 1
  | .nil => 1
  | .ptr d => uptoBulk d + 1
  | .slice elems spare => uptoBulkAll elems + uptoBulkAll spare + 1
  | .agg parts => uptoBulkAll parts + 1
  | .iface _ d => uptoBulk d + 1
  | .map entries => uptoBulkEntries entries + 1
  | .held _ => 1
def uptoBulkAll {H : Type} : List (DataW H) → Nat
  | [] => 0
  | d :: r => uptoBulk d + uptoBulkAll r
def uptoBulkEntries {H : Type} : List (Lit × DataW H) → Nat
  | [] => 0
  | x :: r => uptoBulkEntry x + uptoBulkEntries r
def uptoBulkEntry {H : Type} : Lit × DataW H → Nat
  | (.string bytes, d) => bytes.length + uptoBulk d + 1
  | (_, d) => uptoBulk d + 1
 end
def uptoSmall : (H : Type) → List (DataW H) → Bool := fun _ ds => decide (uptoBulkAll ds ≤ 1048576)
def OpenSpec.upto (s : _root_.Go.ChangeSpec) : _root_.Go.OpenSpec := { _root_.Go.OpenSpec.ofChange s with cond := some uptoSmall }

/-- 'scholiumlaw01.CharsBack', WHERE WHAT IT READS IS OF BULK AT MOST 1048576: true; the input reads as it did. -/
def charsBackUptoRow : OpenClaim := { program := "ytpcbpblckecfiaa", sum := "740930de06c950e685f2413e90f48001334d89ea897ade97a2be85d04f2fa38e", func := "scholium/scholiumlaw01.CharsBack", spec := "charsBack", apart := false, narrowed := true }
def CharsBackUptoSaid : Prop := charsBackUptoRow.holds Try.pinned (OpenSpec.upto charsBackSpec)

/-- 'scholiumlaw01.CharsKinds', WHERE WHAT IT READS IS OF BULK AT MOST 1048576: true; the input reads as it did. -/
def charsKindsUptoRow : OpenClaim := { program := "ytpcbpblckecfiaa", sum := "740930de06c950e685f2413e90f48001334d89ea897ade97a2be85d04f2fa38e", func := "scholium/scholiumlaw01.CharsKinds", spec := "charsKinds", apart := false, narrowed := true }
def CharsKindsUptoSaid : Prop := charsKindsUptoRow.holds Try.pinned (OpenSpec.upto charsKindsSpec)

/-- 'scholiumlaw01.CharsReturns', WHERE WHAT IT READS IS OF BULK AT MOST 1048576: true; the input reads as it did. -/
def charsReturnsUptoRow : OpenClaim := { program := "ytpcbpblckecfiaa", sum := "740930de06c950e685f2413e90f48001334d89ea897ade97a2be85d04f2fa38e", func := "scholium/scholiumlaw01.CharsReturns", spec := "charsReturns", apart := false, narrowed := true }
def CharsReturnsUptoSaid : Prop := charsReturnsUptoRow.holds Try.pinned (OpenSpec.upto charsReturnsSpec)

/-- 'scholiumlaw01.CharsNames', WHERE WHAT IT READS IS OF BULK AT MOST 1048576: true; the input reads as it did. -/
def charsNamesUptoRow : OpenClaim := { program := "ytpcbpblckecfiaa", sum := "740930de06c950e685f2413e90f48001334d89ea897ade97a2be85d04f2fa38e", func := "scholium/scholiumlaw01.CharsNames", spec := "charsNames", apart := false, narrowed := true }
def CharsNamesUptoSaid : Prop := charsNamesUptoRow.holds Try.pinned (OpenSpec.upto charsNamesSpec)

/-- 'scholiumlaw01.CharsRunes', WHERE WHAT IT READS IS OF BULK AT MOST 1048576: true; the input reads as it did. -/
def charsRunesUptoRow : OpenClaim := { program := "ytpcbpblckecfiaa", sum := "740930de06c950e685f2413e90f48001334d89ea897ade97a2be85d04f2fa38e", func := "scholium/scholiumlaw01.CharsRunes", spec := "charsRunes", apart := false, narrowed := true }
def CharsRunesUptoSaid : Prop := charsRunesUptoRow.holds Try.pinned (OpenSpec.upto charsRunesSpec)

/-- 'scholiumlaw01.CharsChecks', WHERE WHAT IT READS IS OF BULK AT MOST 1048576: true; the input reads as it did. -/
def charsChecksUptoRow : OpenClaim := { program := "ytpcbpblckecfiaa", sum := "740930de06c950e685f2413e90f48001334d89ea897ade97a2be85d04f2fa38e", func := "scholium/scholiumlaw01.CharsChecks", spec := "charsChecks", apart := false, narrowed := true }
def CharsChecksUptoSaid : Prop := charsChecksUptoRow.holds Try.pinned (OpenSpec.upto charsChecksSpec)

/-- 'scholiumlaw01.CharsWhole', WHERE WHAT IT READS IS OF BULK AT MOST 1048576: true; the input reads as it did. -/
def charsWholeUptoRow : OpenClaim := { program := "ytpcbpblckecfiaa", sum := "740930de06c950e685f2413e90f48001334d89ea897ade97a2be85d04f2fa38e", func := "scholium/scholiumlaw01.CharsWhole", spec := "charsWhole", apart := false, narrowed := true }
def CharsWholeUptoSaid : Prop := charsWholeUptoRow.holds Try.pinned (OpenSpec.upto charsWholeSpec)

/-- 'scholiumlaw01.CharsLong', WHERE WHAT IT READS IS OF BULK AT MOST 1048576: true; the input reads as it did. -/
def charsLongUptoRow : OpenClaim := { program := "ytpcbpblckecfiaa", sum := "740930de06c950e685f2413e90f48001334d89ea897ade97a2be85d04f2fa38e", func := "scholium/scholiumlaw01.CharsLong", spec := "charsLong", apart := false, narrowed := true }
def CharsLongUptoSaid : Prop := charsLongUptoRow.holds Try.pinned (OpenSpec.upto charsLongSpec)

end Rows
end Go.Proofs.Ytpcbpblckecfiaa
