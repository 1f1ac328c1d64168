/-
  NARROWER THAN 'FOR EVERY INPUT', by the rows' own cells (each row's printed sentence says how): DoubleEscapes: laid · DoubleForms: laid · DoubleHex: laid · DoubleTells: laid · DoubleBack: laid · DoubleRunes: laid · DoubleApart: laid.
  DERIVED. THE GIVEN ROWS OF THIS SEAT. 7 by the template 'for every input the law returns true; each argument reads behind the call as it read before'; 0 by the template 'total and deterministic' (their statements: YtgiloooandiokaaDoorTotals.lean).
  GIVEN WITH THE SEED: the statements are not yours to turn. If you find one false, say at which input.
  Laid BY PROGRAM, IN A SANDBOX (cutbox-rows.mjs): the forced cells as the released guide's own fill.sh prints them over the translation 270c58df5e663c53… (all of the seat's roots in one cut). By AI agents, Wed Nov 11 2026. No macro, syntax, notation, axiom, sorry.
-/
import Derived.Test.YtgiloooandiokaaDoorChecked
import GoSem.Claim
import GoSem.ClaimJoined
import GoSem.ClaimMapViews
import Derived.JoinedTies
import Derived.KernelRfl
namespace Go.Proofs.YtgiloooandiokaaDoor
/- THE CELL 'sum', in the pinned program and in every row, IS THE sha256 OF THE DUMP (.gsa) THAT YtgiloooandiokaaDoorProg.lean LOADS. Nothing in Lean hashes anything: it is a label: what it is worth is what the hold of that sum in a sandbox is worth. -/
noncomputable def Tryd.pinned : Pinned := { name := "ytgiloooandiokaadoor", sum := "270c58df5e663c5321caf1df4a98fbf91d6913e2c3c753cbbadfe6cbc0096340", checked := Tryd.checked }
namespace Rows
def none {H : Type} : Left H := { results := [], args := [] }

/- WHAT THE LISTED PACKAGE-LEVEL VARIABLES READ AS WHEN THE CALL BEGINS. Each datum BY PROGRAM (the guide's laid-datum.mjs) off the statement by which the dump's own 'gosem.cut.vars' lays the variable. In a bare row this is a premise. The card (YtgiloooandiokaaDoorCards.lean) ties it to the program's text. -/
def laid_scholium_double_shorts {H : Type} : DataW H := .agg [.agg [.lit (.int .u8 48), .lit (.int .i32 0)], .agg [.lit (.int .u8 97), .lit (.int .i32 7)], .agg [.lit (.int .u8 98), .lit (.int .i32 8)], .agg [.lit (.int .u8 116), .lit (.int .i32 9)], .agg [.lit (.int .u8 110), .lit (.int .i32 10)], .agg [.lit (.int .u8 118), .lit (.int .i32 11)], .agg [.lit (.int .u8 102), .lit (.int .i32 12)], .agg [.lit (.int .u8 114), .lit (.int .i32 13)], .agg [.lit (.int .u8 101), .lit (.int .i32 27)], .agg [.lit (.int .u8 34), .lit (.int .i32 34)], .agg [.lit (.int .u8 92), .lit (.int .i32 92)], .agg [.lit (.int .u8 78), .lit (.int .i32 133)], .agg [.lit (.int .u8 95), .lit (.int .i32 160)], .agg [.lit (.int .u8 76), .lit (.int .i32 8232)], .agg [.lit (.int .u8 80), .lit (.int .i32 8233)]]

/-- 'scholiumlaw06.DoubleEscapes': WHATEVER THE INPUT: true; the input reads as it did. -/
def doubleEscapesSpec : ChangeSpec := { name := "doubleEscapes", fn := fun _ => fun
  | [d] => { results := [.lit (.bool true)], args := [d] }
  | _ => none }
def doubleEscapesRow : OpenClaim := { program := "ytgiloooandiokaadoor", sum := "270c58df5e663c5321caf1df4a98fbf91d6913e2c3c753cbbadfe6cbc0096340", func := "scholium/scholiumlaw06.DoubleEscapes", spec := "doubleEscapes", named := ["scholium/double.shorts"], apart := false, laid := [("scholium/double.shorts", laid_scholium_double_shorts)] }
def DoubleEscapesSaid : Prop := doubleEscapesRow.holds Tryd.pinned (OpenSpec.ofChange doubleEscapesSpec)

/-- ITS FALSE NEIGHBOUR: 'it returns false'. Refute it at one input. -/
def doubleEscapesWrong : ChangeSpec := { name := "doubleEscapes", fn := fun _ => fun
  | [d] => { results := [.lit (.bool false)], args := [d] }
  | _ => none }
def DoubleEscapesWrongFalsely : Prop := doubleEscapesRow.holds Tryd.pinned (OpenSpec.ofChange doubleEscapesWrong)

/-- 'scholiumlaw06.DoubleForms': WHATEVER THE INPUT: true; the input reads as it did. -/
def doubleFormsSpec : ChangeSpec := { name := "doubleForms", fn := fun _ => fun
  | [d] => { results := [.lit (.bool true)], args := [d] }
  | _ => none }
def doubleFormsRow : OpenClaim := { program := "ytgiloooandiokaadoor", sum := "270c58df5e663c5321caf1df4a98fbf91d6913e2c3c753cbbadfe6cbc0096340", func := "scholium/scholiumlaw06.DoubleForms", spec := "doubleForms", named := ["scholium/double.shorts"], apart := false, laid := [("scholium/double.shorts", laid_scholium_double_shorts)] }
def DoubleFormsSaid : Prop := doubleFormsRow.holds Tryd.pinned (OpenSpec.ofChange doubleFormsSpec)

/-- ITS FALSE NEIGHBOUR: 'it returns false'. Refute it at one input. -/
def doubleFormsWrong : ChangeSpec := { name := "doubleForms", fn := fun _ => fun
  | [d] => { results := [.lit (.bool false)], args := [d] }
  | _ => none }
def DoubleFormsWrongFalsely : Prop := doubleFormsRow.holds Tryd.pinned (OpenSpec.ofChange doubleFormsWrong)

/-- 'scholiumlaw06.DoubleHex': WHATEVER THE INPUT: true; the input reads as it did. -/
def doubleHexSpec : ChangeSpec := { name := "doubleHex", fn := fun _ => fun
  | [d1, d2] => { results := [.lit (.bool true)], args := [d1, d2] }
  | _ => none }
def doubleHexRow : OpenClaim := { program := "ytgiloooandiokaadoor", sum := "270c58df5e663c5321caf1df4a98fbf91d6913e2c3c753cbbadfe6cbc0096340", func := "scholium/scholiumlaw06.DoubleHex", spec := "doubleHex", named := ["scholium/double.shorts"], apart := false, laid := [("scholium/double.shorts", laid_scholium_double_shorts)] }
def DoubleHexSaid : Prop := doubleHexRow.holds Tryd.pinned (OpenSpec.ofChange doubleHexSpec)

/-- ITS FALSE NEIGHBOUR: 'it returns false'. Refute it at one input. -/
def doubleHexWrong : ChangeSpec := { name := "doubleHex", fn := fun _ => fun
  | [d1, d2] => { results := [.lit (.bool false)], args := [d1, d2] }
  | _ => none }
def DoubleHexWrongFalsely : Prop := doubleHexRow.holds Tryd.pinned (OpenSpec.ofChange doubleHexWrong)

/-- 'scholiumlaw06.DoubleTells': WHATEVER THE INPUT: true; the input reads as it did. -/
def doubleTellsSpec : ChangeSpec := { name := "doubleTells", fn := fun _ => fun
  | [d1, d2, d3, d4] => { results := [.lit (.bool true)], args := [d1, d2, d3, d4] }
  | _ => none }
def doubleTellsRow : OpenClaim := { program := "ytgiloooandiokaadoor", sum := "270c58df5e663c5321caf1df4a98fbf91d6913e2c3c753cbbadfe6cbc0096340", func := "scholium/scholiumlaw06.DoubleTells", spec := "doubleTells", named := ["scholium/double.shorts"], apart := false, laid := [("scholium/double.shorts", laid_scholium_double_shorts)] }
def DoubleTellsSaid : Prop := doubleTellsRow.holds Tryd.pinned (OpenSpec.ofChange doubleTellsSpec)

/-- ITS FALSE NEIGHBOUR: 'it returns false'. Refute it at one input. -/
def doubleTellsWrong : ChangeSpec := { name := "doubleTells", fn := fun _ => fun
  | [d1, d2, d3, d4] => { results := [.lit (.bool false)], args := [d1, d2, d3, d4] }
  | _ => none }
def DoubleTellsWrongFalsely : Prop := doubleTellsRow.holds Tryd.pinned (OpenSpec.ofChange doubleTellsWrong)

/-- 'scholiumlaw06.DoubleBack': WHATEVER THE INPUT: true; the input reads as it did. -/
def doubleBackSpec : ChangeSpec := { name := "doubleBack", fn := fun _ => fun
  | [d1, d2] => { results := [.lit (.bool true)], args := [d1, d2] }
  | _ => none }
def doubleBackRow : OpenClaim := { program := "ytgiloooandiokaadoor", sum := "270c58df5e663c5321caf1df4a98fbf91d6913e2c3c753cbbadfe6cbc0096340", func := "scholium/scholiumlaw06.DoubleBack", spec := "doubleBack", named := ["scholium/double.shorts"], apart := false, laid := [("scholium/double.shorts", laid_scholium_double_shorts)] }
def DoubleBackSaid : Prop := doubleBackRow.holds Tryd.pinned (OpenSpec.ofChange doubleBackSpec)

/-- ITS FALSE NEIGHBOUR: 'it returns false'. Refute it at one input. -/
def doubleBackWrong : ChangeSpec := { name := "doubleBack", fn := fun _ => fun
  | [d1, d2] => { results := [.lit (.bool false)], args := [d1, d2] }
  | _ => none }
def DoubleBackWrongFalsely : Prop := doubleBackRow.holds Tryd.pinned (OpenSpec.ofChange doubleBackWrong)

/-- 'scholiumlaw06.DoubleRunes': WHATEVER THE INPUT: true; the input reads as it did. -/
def doubleRunesSpec : ChangeSpec := { name := "doubleRunes", fn := fun _ => fun
  | [d1, d2] => { results := [.lit (.bool true)], args := [d1, d2] }
  | _ => none }
def doubleRunesRow : OpenClaim := { program := "ytgiloooandiokaadoor", sum := "270c58df5e663c5321caf1df4a98fbf91d6913e2c3c753cbbadfe6cbc0096340", func := "scholium/scholiumlaw06.DoubleRunes", spec := "doubleRunes", named := ["scholium/double.shorts"], apart := false, laid := [("scholium/double.shorts", laid_scholium_double_shorts)] }
def DoubleRunesSaid : Prop := doubleRunesRow.holds Tryd.pinned (OpenSpec.ofChange doubleRunesSpec)

/-- ITS FALSE NEIGHBOUR: 'it returns false'. Refute it at one input. -/
def doubleRunesWrong : ChangeSpec := { name := "doubleRunes", fn := fun _ => fun
  | [d1, d2] => { results := [.lit (.bool false)], args := [d1, d2] }
  | _ => none }
def DoubleRunesWrongFalsely : Prop := doubleRunesRow.holds Tryd.pinned (OpenSpec.ofChange doubleRunesWrong)

/-- 'scholiumlaw06.DoubleApart': WHATEVER THE INPUT: true; the input reads as it did. -/
def doubleApartSpec : ChangeSpec := { name := "doubleApart", fn := fun _ => fun
  | [d1, d2] => { results := [.lit (.bool true)], args := [d1, d2] }
  | _ => none }
def doubleApartRow : OpenClaim := { program := "ytgiloooandiokaadoor", sum := "270c58df5e663c5321caf1df4a98fbf91d6913e2c3c753cbbadfe6cbc0096340", func := "scholium/scholiumlaw06.DoubleApart", spec := "doubleApart", named := ["scholium/double.shorts"], apart := false, laid := [("scholium/double.shorts", laid_scholium_double_shorts)] }
def DoubleApartSaid : Prop := doubleApartRow.holds Tryd.pinned (OpenSpec.ofChange doubleApartSpec)

/-- ITS FALSE NEIGHBOUR: 'it returns false'. Refute it at one input. -/
def doubleApartWrong : ChangeSpec := { name := "doubleApart", fn := fun _ => fun
  | [d1, d2] => { results := [.lit (.bool false)], args := [d1, d2] }
  | _ => none }
def DoubleApartWrongFalsely : Prop := doubleApartRow.holds Tryd.pinned (OpenSpec.ofChange doubleApartWrong)

/- THE SECOND FORM. 'bulk': how many values and letters a reading holds, each counted each time it is reached (what is shared counts as often as it is met; a slice's spare places count too). A statement '..UptoSaid' is the law's where the arguments, and the package variables that the reading takes, are together of bulk at most 1048576: NARROWER than '..Said'. Prove '..Said' where nothing that the law and all that it calls make is longer than what came in: it says more and counts as full. Else prove '..UptoSaid'. A law counts once. -/
mutual
def uptoBulk {H : Type} : DataW H → Nat
  | .lit (.string bytes) => bytes.length + 1
  | .lit _ => 1
  | .nil => 1
  | .ptr d => uptoBulk d + 1
  | .slice elems spare => uptoBulkAll elems + uptoBulkAll spare + 1
  | .agg parts => uptoBulkAll parts + 1
  | .iface _ d => uptoBulk d + 1
  | .map entries => uptoBulkEntries entries + 1
  | .held _ => 1
def uptoBulkAll {H : Type} : List (DataW H) → Nat
  | [] => 0
  | d :: r => uptoBulk d + uptoBulkAll r
def uptoBulkEntries {H : Type} : List (Lit × DataW H) → Nat
  | [] => 0
  | x :: r => uptoBulkEntry x + uptoBulkEntries r
def uptoBulkEntry {H : Type} : Lit × DataW H → Nat
  | (.string bytes, d) => bytes.length + uptoBulk d + 1
  | (_, d) => uptoBulk d + 1
 end
def uptoSmall : (H : Type) → List (DataW H) → Bool := fun _ ds => decide (uptoBulkAll ds ≤ 1048576)
def OpenSpec.upto (s : _root_.Go.ChangeSpec) : _root_.Go.OpenSpec := { _root_.Go.OpenSpec.ofChange s with cond := some uptoSmall }

/-- 'scholiumlaw06.DoubleEscapes', WHERE WHAT IT READS IS OF BULK AT MOST 1048576: true; the input reads as it did. -/
def doubleEscapesUptoRow : OpenClaim := { program := "ytgiloooandiokaadoor", sum := "270c58df5e663c5321caf1df4a98fbf91d6913e2c3c753cbbadfe6cbc0096340", func := "scholium/scholiumlaw06.DoubleEscapes", spec := "doubleEscapes", named := ["scholium/double.shorts"], apart := false, laid := [("scholium/double.shorts", laid_scholium_double_shorts)], narrowed := true }
def DoubleEscapesUptoSaid : Prop := doubleEscapesUptoRow.holds Tryd.pinned (OpenSpec.upto doubleEscapesSpec)

/-- 'scholiumlaw06.DoubleForms', WHERE WHAT IT READS IS OF BULK AT MOST 1048576: true; the input reads as it did. -/
def doubleFormsUptoRow : OpenClaim := { program := "ytgiloooandiokaadoor", sum := "270c58df5e663c5321caf1df4a98fbf91d6913e2c3c753cbbadfe6cbc0096340", func := "scholium/scholiumlaw06.DoubleForms", spec := "doubleForms", named := ["scholium/double.shorts"], apart := false, laid := [("scholium/double.shorts", laid_scholium_double_shorts)], narrowed := true }
def DoubleFormsUptoSaid : Prop := doubleFormsUptoRow.holds Tryd.pinned (OpenSpec.upto doubleFormsSpec)

/-- 'scholiumlaw06.DoubleHex', WHERE WHAT IT READS IS OF BULK AT MOST 1048576: true; the input reads as it did. -/
def doubleHexUptoRow : OpenClaim := { program := "ytgiloooandiokaadoor", sum := "270c58df5e663c5321caf1df4a98fbf91d6913e2c3c753cbbadfe6cbc0096340", func := "scholium/scholiumlaw06.DoubleHex", spec := "doubleHex", named := ["scholium/double.shorts"], apart := false, laid := [("scholium/double.shorts", laid_scholium_double_shorts)], narrowed := true }
def DoubleHexUptoSaid : Prop := doubleHexUptoRow.holds Tryd.pinned (OpenSpec.upto doubleHexSpec)

/-- 'scholiumlaw06.DoubleTells', WHERE WHAT IT READS IS OF BULK AT MOST 1048576: true; the input reads as it did. -/
def doubleTellsUptoRow : OpenClaim := { program := "ytgiloooandiokaadoor", sum := "270c58df5e663c5321caf1df4a98fbf91d6913e2c3c753cbbadfe6cbc0096340", func := "scholium/scholiumlaw06.DoubleTells", spec := "doubleTells", named := ["scholium/double.shorts"], apart := false, laid := [("scholium/double.shorts", laid_scholium_double_shorts)], narrowed := true }
def DoubleTellsUptoSaid : Prop := doubleTellsUptoRow.holds Tryd.pinned (OpenSpec.upto doubleTellsSpec)

/-- 'scholiumlaw06.DoubleBack', WHERE WHAT IT READS IS OF BULK AT MOST 1048576: true; the input reads as it did. -/
def doubleBackUptoRow : OpenClaim := { program := "ytgiloooandiokaadoor", sum := "270c58df5e663c5321caf1df4a98fbf91d6913e2c3c753cbbadfe6cbc0096340", func := "scholium/scholiumlaw06.DoubleBack", spec := "doubleBack", named := ["scholium/double.shorts"], apart := false, laid := [("scholium/double.shorts", laid_scholium_double_shorts)], narrowed := true }
def DoubleBackUptoSaid : Prop := doubleBackUptoRow.holds Tryd.pinned (OpenSpec.upto doubleBackSpec)

/-- 'scholiumlaw06.DoubleRunes', WHERE WHAT IT READS IS OF BULK AT MOST 1048576: true; the input reads as it did. -/
def doubleRunesUptoRow : OpenClaim := { program := "ytgiloooandiokaadoor", sum := "270c58df5e663c5321caf1df4a98fbf91d6913e2c3c753cbbadfe6cbc0096340", func := "scholium/scholiumlaw06.DoubleRunes", spec := "doubleRunes", named := ["scholium/double.shorts"], apart := false, laid := [("scholium/double.shorts", laid_scholium_double_shorts)], narrowed := true }
def DoubleRunesUptoSaid : Prop := doubleRunesUptoRow.holds Tryd.pinned (OpenSpec.upto doubleRunesSpec)

/-- 'scholiumlaw06.DoubleApart', WHERE WHAT IT READS IS OF BULK AT MOST 1048576: true; the input reads as it did. -/
def doubleApartUptoRow : OpenClaim := { program := "ytgiloooandiokaadoor", sum := "270c58df5e663c5321caf1df4a98fbf91d6913e2c3c753cbbadfe6cbc0096340", func := "scholium/scholiumlaw06.DoubleApart", spec := "doubleApart", named := ["scholium/double.shorts"], apart := false, laid := [("scholium/double.shorts", laid_scholium_double_shorts)], narrowed := true }
def DoubleApartUptoSaid : Prop := doubleApartUptoRow.holds Tryd.pinned (OpenSpec.upto doubleApartSpec)

end Rows
end Go.Proofs.YtgiloooandiokaaDoor
