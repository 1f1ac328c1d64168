/-
  NARROWER THAN 'FOR EVERY INPUT', by the rows' own cells (each row's printed sentence says how): CheckForms: laid · CheckCircles: laid.
  DERIVED. THE GIVEN ROWS OF THIS SEAT. 2 by the template 'for every input the law returns true; each argument reads behind the call as it read before'; 0 by the template 'total and deterministic' (their statements: YtnecapmnbaemiaaGreatDoorTotals.lean).
  GIVEN WITH THE SEED: the statements are not yours to turn. If you find one false, say at which input.
  Laid BY PROGRAM, IN A SANDBOX (cutbox-rows.mjs): the forced cells as the released guide's own fill.sh prints them over the translation fbce33f7691ade26… (all of the seat's roots in one cut). By AI agents, Wed Nov 11 2026. No macro, syntax, notation, axiom, sorry.
-/
import Derived.Test.YtnecapmnbaemiaaGreatDoorChecked
import GoSem.PinnedTables
import GoSem.Claim
import GoSem.ClaimJoined
import GoSem.ClaimMapViews
import Derived.JoinedTies
import Derived.KernelRfl
namespace Go.Proofs.YtnecapmnbaemiaaGreatDoor
/- THE CELL 'sum', in the pinned program and in every row, IS THE sha256 OF THE DUMP (.gsa) THAT YtnecapmnbaemiaaGreatDoorProg.lean LOADS. Nothing in Lean hashes anything: it is a label: what it is worth is what the hold of that sum in a sandbox is worth. -/
noncomputable def Tryz.pinned : Pinned := { name := "ytnecapmnbaemiaagreatdoor", sum := "fbce33f7691ade26bcad649e001fcf7158def552b3b9c9505126484382d6e722", checked := Tryz.checked }
namespace Rows
def none {H : Type} : Left H := { results := [], args := [] }

/- WHAT THE LISTED PACKAGE-LEVEL VARIABLES READ AS WHEN THE CALL BEGINS. Each datum BY PROGRAM (the guide's laid-datum.mjs) off the statement by which the dump's own 'gosem.cut.vars' lays the variable. In a bare row this is a premise. The card (YtnecapmnbaemiaaGreatDoorCards.lean) ties it to the program's text. -/
def laid_unicode_utf8_acceptRanges {H : Type} : DataW H := .agg [.agg [.lit (.int .u8 128), .lit (.int .u8 191)], .agg [.lit (.int .u8 160), .lit (.int .u8 191)], .agg [.lit (.int .u8 128), .lit (.int .u8 159)], .agg [.lit (.int .u8 144), .lit (.int .u8 191)], .agg [.lit (.int .u8 128), .lit (.int .u8 143)], .agg [.lit (.int .u8 0), .lit (.int .u8 0)], .agg [.lit (.int .u8 0), .lit (.int .u8 0)], .agg [.lit (.int .u8 0), .lit (.int .u8 0)], .agg [.lit (.int .u8 0), .lit (.int .u8 0)], .agg [.lit (.int .u8 0), .lit (.int .u8 0)], .agg [.lit (.int .u8 0), .lit (.int .u8 0)], .agg [.lit (.int .u8 0), .lit (.int .u8 0)], .agg [.lit (.int .u8 0), .lit (.int .u8 0)], .agg [.lit (.int .u8 0), .lit (.int .u8 0)], .agg [.lit (.int .u8 0), .lit (.int .u8 0)], .agg [.lit (.int .u8 0), .lit (.int .u8 0)]]
def laid_scholium_double_shorts {H : Type} : DataW H := .agg [.agg [.lit (.int .u8 48), .lit (.int .i32 0)], .agg [.lit (.int .u8 97), .lit (.int .i32 7)], .agg [.lit (.int .u8 98), .lit (.int .i32 8)], .agg [.lit (.int .u8 116), .lit (.int .i32 9)], .agg [.lit (.int .u8 110), .lit (.int .i32 10)], .agg [.lit (.int .u8 118), .lit (.int .i32 11)], .agg [.lit (.int .u8 102), .lit (.int .i32 12)], .agg [.lit (.int .u8 114), .lit (.int .i32 13)], .agg [.lit (.int .u8 101), .lit (.int .i32 27)], .agg [.lit (.int .u8 34), .lit (.int .i32 34)], .agg [.lit (.int .u8 92), .lit (.int .i32 92)], .agg [.lit (.int .u8 78), .lit (.int .i32 133)], .agg [.lit (.int .u8 95), .lit (.int .i32 160)], .agg [.lit (.int .u8 76), .lit (.int .i32 8232)], .agg [.lit (.int .u8 80), .lit (.int .i32 8233)]]
/-- One of Go's own tables, pinned by name: the form's constant. -/
def laid_unicode_utf8_first : DataW Unit := Go.Pinned.utf8First

/-- 'scholiumlaw14.CheckForms': WHATEVER THE INPUT: true; the input reads as it did. -/
def checkFormsSpec : ChangeSpec := { name := "checkForms", fn := fun _ => fun
  | [d] => { results := [.lit (.bool true)], args := [d] }
  | _ => none }
def checkFormsRow : OpenClaim := { program := "ytnecapmnbaemiaagreatdoor", sum := "fbce33f7691ade26bcad649e001fcf7158def552b3b9c9505126484382d6e722", func := "scholium/scholiumlaw14.CheckForms", spec := "checkForms", inPlace := ["internal/bytealg.IndexByte", "internal/bytealg.Index", "internal/bytealg.CountString", "internal/bytealg.IndexByteString", "internal/bytealg.IndexString", "internal/abi.NoEscape", "internal/bytealg.MakeNoZero"], unfollowed := true, recurses := true, named := ["internal/bytealg.MaxLen", "scholium/double.shorts", "unicode/utf8.first", "unicode/utf8.acceptRanges"], plainKeys := false, apart := false, laid := [("unicode/utf8.acceptRanges", laid_unicode_utf8_acceptRanges), ("scholium/double.shorts", laid_scholium_double_shorts), ("unicode/utf8.first", laid_unicode_utf8_first)] }
def CheckFormsSaid : Prop := checkFormsRow.holds Tryz.pinned (OpenSpec.ofChange checkFormsSpec)

/-- ITS FALSE NEIGHBOUR: 'it returns false'. Refute it at one input. -/
def checkFormsWrong : ChangeSpec := { name := "checkForms", fn := fun _ => fun
  | [d] => { results := [.lit (.bool false)], args := [d] }
  | _ => none }
def CheckFormsWrongFalsely : Prop := checkFormsRow.holds Tryz.pinned (OpenSpec.ofChange checkFormsWrong)

/-- 'scholiumlaw14.CheckCircles': WHATEVER THE INPUT: true; the input reads as it did. -/
def checkCirclesSpec : ChangeSpec := { name := "checkCircles", fn := fun _ => fun
  | [d] => { results := [.lit (.bool true)], args := [d] }
  | _ => none }
def checkCirclesRow : OpenClaim := { program := "ytnecapmnbaemiaagreatdoor", sum := "fbce33f7691ade26bcad649e001fcf7158def552b3b9c9505126484382d6e722", func := "scholium/scholiumlaw14.CheckCircles", spec := "checkCircles", inPlace := ["internal/bytealg.IndexByte", "internal/bytealg.Index", "internal/bytealg.CountString", "internal/bytealg.IndexByteString", "internal/bytealg.IndexString", "internal/abi.NoEscape", "internal/bytealg.MakeNoZero"], unfollowed := true, recurses := true, named := ["internal/bytealg.MaxLen", "scholium/double.shorts", "unicode/utf8.first", "unicode/utf8.acceptRanges"], plainKeys := false, apart := false, laid := [("unicode/utf8.acceptRanges", laid_unicode_utf8_acceptRanges), ("scholium/double.shorts", laid_scholium_double_shorts), ("unicode/utf8.first", laid_unicode_utf8_first)] }
def CheckCirclesSaid : Prop := checkCirclesRow.holds Tryz.pinned (OpenSpec.ofChange checkCirclesSpec)

/-- ITS FALSE NEIGHBOUR: 'it returns false'. Refute it at one input. -/
def checkCirclesWrong : ChangeSpec := { name := "checkCircles", fn := fun _ => fun
  | [d] => { results := [.lit (.bool false)], args := [d] }
  | _ => none }
def CheckCirclesWrongFalsely : Prop := checkCirclesRow.holds Tryz.pinned (OpenSpec.ofChange checkCirclesWrong)

/- THE SECOND FORM. 'bulk': how many values and letters a reading holds, each counted each time it is reached (what is shared counts as often as it is met; a slice's spare places count too). A statement '..UptoSaid' is the law's where the arguments, and the package variables that the reading takes, are together of bulk at most 1048576: NARROWER than '..Said'. Prove '..Said' where nothing that the law and all that it calls make is longer than what came in: it says more and counts as full. Else prove '..UptoSaid'. A law counts once. -/
mutual
def uptoBulk {H : Type} : DataW H → Nat
  | .lit (.string bytes) => bytes.length + 1
  | .lit _ => 1
  | .nil => 1
  | .ptr d => uptoBulk d + 1
  | .slice elems spare => uptoBulkAll elems + uptoBulkAll spare + 1
  | .agg parts => uptoBulkAll parts + 1
  | .iface _ d => uptoBulk d + 1
  | .map entries => uptoBulkEntries entries + 1
  | .held _ => 1
def uptoBulkAll {H : Type} : List (DataW H) → Nat
  | [] => 0
  | d :: r => uptoBulk d + uptoBulkAll r
def uptoBulkEntries {H : Type} : List (Lit × DataW H) → Nat
  | [] => 0
  | x :: r => uptoBulkEntry x + uptoBulkEntries r
def uptoBulkEntry {H : Type} : Lit × DataW H → Nat
  | (.string bytes, d) => bytes.length + uptoBulk d + 1
  | (_, d) => uptoBulk d + 1
 end
def uptoSmall : (H : Type) → List (DataW H) → Bool := fun _ ds => decide (uptoBulkAll ds ≤ 1048576)
def OpenSpec.upto (s : _root_.Go.ChangeSpec) : _root_.Go.OpenSpec := { _root_.Go.OpenSpec.ofChange s with cond := some uptoSmall }

/-- 'scholiumlaw14.CheckForms', WHERE WHAT IT READS IS OF BULK AT MOST 1048576: true; the input reads as it did. -/
def checkFormsUptoRow : OpenClaim := { program := "ytnecapmnbaemiaagreatdoor", sum := "fbce33f7691ade26bcad649e001fcf7158def552b3b9c9505126484382d6e722", func := "scholium/scholiumlaw14.CheckForms", spec := "checkForms", inPlace := ["internal/bytealg.IndexByte", "internal/bytealg.Index", "internal/bytealg.CountString", "internal/bytealg.IndexByteString", "internal/bytealg.IndexString", "internal/abi.NoEscape", "internal/bytealg.MakeNoZero"], unfollowed := true, recurses := true, named := ["internal/bytealg.MaxLen", "scholium/double.shorts", "unicode/utf8.first", "unicode/utf8.acceptRanges"], plainKeys := false, apart := false, laid := [("unicode/utf8.acceptRanges", laid_unicode_utf8_acceptRanges), ("scholium/double.shorts", laid_scholium_double_shorts), ("unicode/utf8.first", laid_unicode_utf8_first)], narrowed := true }
def CheckFormsUptoSaid : Prop := checkFormsUptoRow.holds Tryz.pinned (OpenSpec.upto checkFormsSpec)

/-- 'scholiumlaw14.CheckCircles', WHERE WHAT IT READS IS OF BULK AT MOST 1048576: true; the input reads as it did. -/
def checkCirclesUptoRow : OpenClaim := { program := "ytnecapmnbaemiaagreatdoor", sum := "fbce33f7691ade26bcad649e001fcf7158def552b3b9c9505126484382d6e722", func := "scholium/scholiumlaw14.CheckCircles", spec := "checkCircles", inPlace := ["internal/bytealg.IndexByte", "internal/bytealg.Index", "internal/bytealg.CountString", "internal/bytealg.IndexByteString", "internal/bytealg.IndexString", "internal/abi.NoEscape", "internal/bytealg.MakeNoZero"], unfollowed := true, recurses := true, named := ["internal/bytealg.MaxLen", "scholium/double.shorts", "unicode/utf8.first", "unicode/utf8.acceptRanges"], plainKeys := false, apart := false, laid := [("unicode/utf8.acceptRanges", laid_unicode_utf8_acceptRanges), ("scholium/double.shorts", laid_scholium_double_shorts), ("unicode/utf8.first", laid_unicode_utf8_first)], narrowed := true }
def CheckCirclesUptoSaid : Prop := checkCirclesUptoRow.holds Tryz.pinned (OpenSpec.upto checkCirclesSpec)

end Rows
end Go.Proofs.YtnecapmnbaemiaaGreatDoor
