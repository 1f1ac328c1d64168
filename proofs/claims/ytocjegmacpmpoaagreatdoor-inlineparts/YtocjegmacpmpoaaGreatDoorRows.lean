/-
  NARROWER THAN 'FOR EVERY INPUT', by the rows' own cells (each row's printed sentence says how): InlineParts: laid · InlineParses: laid · InlineSpans: laid.
  DERIVED. THE GIVEN ROWS OF THIS SEAT. 3 by the template 'for every input the law returns true; each argument reads behind the call as it read before'; 0 by the template 'total and deterministic' (their statements: YtocjegmacpmpoaaGreatDoorTotals.lean).
  GIVEN WITH THE SEED: the statements are not yours to turn. If you find one false, say at which input.
  Laid BY PROGRAM, IN A SANDBOX (cutbox-rows.mjs): the forced cells as the released guide's own fill.sh prints them over the translation 9c47d59e39d96afa… (all of the seat's roots in one cut). By AI agents, Wed Nov 11 2026. No macro, syntax, notation, axiom, sorry.
-/
import Derived.Test.YtocjegmacpmpoaaGreatDoorChecked
import GoSem.PinnedTables
import GoSem.Claim
import GoSem.ClaimJoined
import GoSem.ClaimMapViews
import Derived.JoinedTies
import Derived.KernelRfl
namespace Go.Proofs.YtocjegmacpmpoaaGreatDoor
/- THE CELL 'sum', in the pinned program and in every row, IS THE sha256 OF THE DUMP (.gsa) THAT YtocjegmacpmpoaaGreatDoorProg.lean LOADS. Nothing in Lean hashes anything: it is a label: what it is worth is what the hold of that sum in a sandbox is worth. -/
noncomputable def Tryz.pinned : Pinned := { name := "ytocjegmacpmpoaagreatdoor", sum := "9c47d59e39d96afa20adaa10a860dc542098f2c72e3f7c8a2ad3ef6a35b5ec28", checked := Tryz.checked }
namespace Rows
def none {H : Type} : Left H := { results := [], args := [] }

/- WHAT THE LISTED PACKAGE-LEVEL VARIABLES READ AS WHEN THE CALL BEGINS. Each datum BY PROGRAM (the guide's laid-datum.mjs) off the statement by which the dump's own 'gosem.cut.vars' lays the variable. In a bare row this is a premise. The card (YtocjegmacpmpoaaGreatDoorCards.lean) ties it to the program's text. -/
def laid_unicode_utf8_acceptRanges {H : Type} : DataW H := .agg [.agg [.lit (.int .u8 128), .lit (.int .u8 191)], .agg [.lit (.int .u8 160), .lit (.int .u8 191)], .agg [.lit (.int .u8 128), .lit (.int .u8 159)], .agg [.lit (.int .u8 144), .lit (.int .u8 191)], .agg [.lit (.int .u8 128), .lit (.int .u8 143)], .agg [.lit (.int .u8 0), .lit (.int .u8 0)], .agg [.lit (.int .u8 0), .lit (.int .u8 0)], .agg [.lit (.int .u8 0), .lit (.int .u8 0)], .agg [.lit (.int .u8 0), .lit (.int .u8 0)], .agg [.lit (.int .u8 0), .lit (.int .u8 0)], .agg [.lit (.int .u8 0), .lit (.int .u8 0)], .agg [.lit (.int .u8 0), .lit (.int .u8 0)], .agg [.lit (.int .u8 0), .lit (.int .u8 0)], .agg [.lit (.int .u8 0), .lit (.int .u8 0)], .agg [.lit (.int .u8 0), .lit (.int .u8 0)], .agg [.lit (.int .u8 0), .lit (.int .u8 0)]]
def laid_scholium_double_shorts {H : Type} : DataW H := .agg [.agg [.lit (.int .u8 48), .lit (.int .i32 0)], .agg [.lit (.int .u8 97), .lit (.int .i32 7)], .agg [.lit (.int .u8 98), .lit (.int .i32 8)], .agg [.lit (.int .u8 116), .lit (.int .i32 9)], .agg [.lit (.int .u8 110), .lit (.int .i32 10)], .agg [.lit (.int .u8 118), .lit (.int .i32 11)], .agg [.lit (.int .u8 102), .lit (.int .i32 12)], .agg [.lit (.int .u8 114), .lit (.int .i32 13)], .agg [.lit (.int .u8 101), .lit (.int .i32 27)], .agg [.lit (.int .u8 34), .lit (.int .i32 34)], .agg [.lit (.int .u8 92), .lit (.int .i32 92)], .agg [.lit (.int .u8 78), .lit (.int .i32 133)], .agg [.lit (.int .u8 95), .lit (.int .i32 160)], .agg [.lit (.int .u8 76), .lit (.int .i32 8232)], .agg [.lit (.int .u8 80), .lit (.int .i32 8233)]]
/-- One of Go's own tables, pinned by name: the form's constant. -/
def laid_unicode_utf8_first : DataW Unit := Go.Pinned.utf8First

/-- 'scholiumlaw12.InlineParts': WHATEVER THE INPUT: true; the input reads as it did. -/
def inlinePartsSpec : ChangeSpec := { name := "inlineParts", fn := fun _ => fun
  | [d1, d2] => { results := [.lit (.bool true)], args := [d1, d2] }
  | _ => none }
def inlinePartsRow : OpenClaim := { program := "ytocjegmacpmpoaagreatdoor", sum := "9c47d59e39d96afa20adaa10a860dc542098f2c72e3f7c8a2ad3ef6a35b5ec28", func := "scholium/scholiumlaw12.InlineParts", spec := "inlineParts", inPlace := ["internal/bytealg.IndexByte", "internal/bytealg.Index", "internal/bytealg.CountString", "internal/bytealg.IndexByteString", "internal/bytealg.IndexString", "internal/abi.NoEscape", "internal/bytealg.MakeNoZero"], unfollowed := true, recurses := true, named := ["internal/bytealg.MaxLen", "scholium/double.shorts", "unicode/utf8.first", "unicode/utf8.acceptRanges"], apart := false, laid := [("unicode/utf8.acceptRanges", laid_unicode_utf8_acceptRanges), ("scholium/double.shorts", laid_scholium_double_shorts), ("unicode/utf8.first", laid_unicode_utf8_first)] }
def InlinePartsSaid : Prop := inlinePartsRow.holds Tryz.pinned (OpenSpec.ofChange inlinePartsSpec)

/-- ITS FALSE NEIGHBOUR: 'it returns false'. Refute it at one input. -/
def inlinePartsWrong : ChangeSpec := { name := "inlineParts", fn := fun _ => fun
  | [d1, d2] => { results := [.lit (.bool false)], args := [d1, d2] }
  | _ => none }
def InlinePartsWrongFalsely : Prop := inlinePartsRow.holds Tryz.pinned (OpenSpec.ofChange inlinePartsWrong)

/-- 'scholiumlaw12.InlineParses': WHATEVER THE INPUT: true; the input reads as it did. -/
def inlineParsesSpec : ChangeSpec := { name := "inlineParses", fn := fun _ => fun
  | [d1, d2, d3, d4, d5, d6, d7, d8, d9] => { results := [.lit (.bool true)], args := [d1, d2, d3, d4, d5, d6, d7, d8, d9] }
  | _ => none }
def inlineParsesRow : OpenClaim := { program := "ytocjegmacpmpoaagreatdoor", sum := "9c47d59e39d96afa20adaa10a860dc542098f2c72e3f7c8a2ad3ef6a35b5ec28", func := "scholium/scholiumlaw12.InlineParses", spec := "inlineParses", inPlace := ["internal/bytealg.IndexByte", "internal/bytealg.Index", "internal/bytealg.CountString", "internal/bytealg.IndexByteString", "internal/bytealg.IndexString", "internal/abi.NoEscape", "internal/bytealg.MakeNoZero"], unfollowed := true, recurses := true, named := ["internal/bytealg.MaxLen", "scholium/double.shorts", "unicode/utf8.first", "unicode/utf8.acceptRanges"], apart := false, laid := [("unicode/utf8.acceptRanges", laid_unicode_utf8_acceptRanges), ("scholium/double.shorts", laid_scholium_double_shorts), ("unicode/utf8.first", laid_unicode_utf8_first)] }
def InlineParsesSaid : Prop := inlineParsesRow.holds Tryz.pinned (OpenSpec.ofChange inlineParsesSpec)

/-- ITS FALSE NEIGHBOUR: 'it returns false'. Refute it at one input. -/
def inlineParsesWrong : ChangeSpec := { name := "inlineParses", fn := fun _ => fun
  | [d1, d2, d3, d4, d5, d6, d7, d8, d9] => { results := [.lit (.bool false)], args := [d1, d2, d3, d4, d5, d6, d7, d8, d9] }
  | _ => none }
def InlineParsesWrongFalsely : Prop := inlineParsesRow.holds Tryz.pinned (OpenSpec.ofChange inlineParsesWrong)

/-- 'scholiumlaw12.InlineSpans': WHATEVER THE INPUT: true; the input reads as it did. -/
def inlineSpansSpec : ChangeSpec := { name := "inlineSpans", fn := fun _ => fun
  | [d] => { results := [.lit (.bool true)], args := [d] }
  | _ => none }
def inlineSpansRow : OpenClaim := { program := "ytocjegmacpmpoaagreatdoor", sum := "9c47d59e39d96afa20adaa10a860dc542098f2c72e3f7c8a2ad3ef6a35b5ec28", func := "scholium/scholiumlaw12.InlineSpans", spec := "inlineSpans", inPlace := ["internal/bytealg.IndexByte", "internal/bytealg.Index", "internal/bytealg.CountString", "internal/bytealg.IndexByteString", "internal/bytealg.IndexString", "internal/abi.NoEscape", "internal/bytealg.MakeNoZero"], unfollowed := true, recurses := true, named := ["internal/bytealg.MaxLen", "scholium/double.shorts", "unicode/utf8.first", "unicode/utf8.acceptRanges"], apart := false, laid := [("unicode/utf8.acceptRanges", laid_unicode_utf8_acceptRanges), ("scholium/double.shorts", laid_scholium_double_shorts), ("unicode/utf8.first", laid_unicode_utf8_first)] }
def InlineSpansSaid : Prop := inlineSpansRow.holds Tryz.pinned (OpenSpec.ofChange inlineSpansSpec)

/-- ITS FALSE NEIGHBOUR: 'it returns false'. Refute it at one input. -/
def inlineSpansWrong : ChangeSpec := { name := "inlineSpans", fn := fun _ => fun
  | [d] => { results := [.lit (.bool false)], args := [d] }
  | _ => none }
def InlineSpansWrongFalsely : Prop := inlineSpansRow.holds Tryz.pinned (OpenSpec.ofChange inlineSpansWrong)

/- THE SECOND FORM. 'bulk': how many values and letters a reading holds, each counted each time it is reached (what is shared counts as often as it is met; a slice's spare places count too). A statement '..UptoSaid' is the law's where the arguments, and the package variables that the reading takes, are together of bulk at most 1048576: NARROWER than '..Said'. Prove '..Said' where nothing that the law and all that it calls make is longer than what came in: it says more and counts as full. Else prove '..UptoSaid'. A law counts once. -/
mutual
def uptoBulk {H : Type} : DataW H → Nat
  | .lit (.string bytes) => bytes.length + 1
  | .lit _ => 1
  | .nil => 1
  | .ptr d => uptoBulk d + 1
  | .slice elems spare => uptoBulkAll elems + uptoBulkAll spare + 1
  | .agg parts => uptoBulkAll parts + 1
  | .iface _ d => uptoBulk d + 1
  | .map entries => uptoBulkEntries entries + 1
  | .held _ => 1
def uptoBulkAll {H : Type} : List (DataW H) → Nat
  | [] => 0
  | d :: r => uptoBulk d + uptoBulkAll r
def uptoBulkEntries {H : Type} : List (Lit × DataW H) → Nat
  | [] => 0
  | x :: r => uptoBulkEntry x + uptoBulkEntries r
def uptoBulkEntry {H : Type} : Lit × DataW H → Nat
  | (.string bytes, d) => bytes.length + uptoBulk d + 1
  | (_, d) => uptoBulk d + 1
 end
def uptoSmall : (H : Type) → List (DataW H) → Bool := fun _ ds => decide (uptoBulkAll ds ≤ 1048576)
def OpenSpec.upto (s : _root_.Go.ChangeSpec) : _root_.Go.OpenSpec := { _root_.Go.OpenSpec.ofChange s with cond := some uptoSmall }

/-- 'scholiumlaw12.InlineParts', WHERE WHAT IT READS IS OF BULK AT MOST 1048576: true; the input reads as it did. -/
def inlinePartsUptoRow : OpenClaim := { program := "ytocjegmacpmpoaagreatdoor", sum := "9c47d59e39d96afa20adaa10a860dc542098f2c72e3f7c8a2ad3ef6a35b5ec28", func := "scholium/scholiumlaw12.InlineParts", spec := "inlineParts", inPlace := ["internal/bytealg.IndexByte", "internal/bytealg.Index", "internal/bytealg.CountString", "internal/bytealg.IndexByteString", "internal/bytealg.IndexString", "internal/abi.NoEscape", "internal/bytealg.MakeNoZero"], unfollowed := true, recurses := true, named := ["internal/bytealg.MaxLen", "scholium/double.shorts", "unicode/utf8.first", "unicode/utf8.acceptRanges"], apart := false, laid := [("unicode/utf8.acceptRanges", laid_unicode_utf8_acceptRanges), ("scholium/double.shorts", laid_scholium_double_shorts), ("unicode/utf8.first", laid_unicode_utf8_first)], narrowed := true }
def InlinePartsUptoSaid : Prop := inlinePartsUptoRow.holds Tryz.pinned (OpenSpec.upto inlinePartsSpec)

/-- 'scholiumlaw12.InlineParses', WHERE WHAT IT READS IS OF BULK AT MOST 1048576: true; the input reads as it did. -/
def inlineParsesUptoRow : OpenClaim := { program := "ytocjegmacpmpoaagreatdoor", sum := "9c47d59e39d96afa20adaa10a860dc542098f2c72e3f7c8a2ad3ef6a35b5ec28", func := "scholium/scholiumlaw12.InlineParses", spec := "inlineParses", inPlace := ["internal/bytealg.IndexByte", "internal/bytealg.Index", "internal/bytealg.CountString", "internal/bytealg.IndexByteString", "internal/bytealg.IndexString", "internal/abi.NoEscape", "internal/bytealg.MakeNoZero"], unfollowed := true, recurses := true, named := ["internal/bytealg.MaxLen", "scholium/double.shorts", "unicode/utf8.first", "unicode/utf8.acceptRanges"], apart := false, laid := [("unicode/utf8.acceptRanges", laid_unicode_utf8_acceptRanges), ("scholium/double.shorts", laid_scholium_double_shorts), ("unicode/utf8.first", laid_unicode_utf8_first)], narrowed := true }
def InlineParsesUptoSaid : Prop := inlineParsesUptoRow.holds Tryz.pinned (OpenSpec.upto inlineParsesSpec)

/-- 'scholiumlaw12.InlineSpans', WHERE WHAT IT READS IS OF BULK AT MOST 1048576: true; the input reads as it did. -/
def inlineSpansUptoRow : OpenClaim := { program := "ytocjegmacpmpoaagreatdoor", sum := "9c47d59e39d96afa20adaa10a860dc542098f2c72e3f7c8a2ad3ef6a35b5ec28", func := "scholium/scholiumlaw12.InlineSpans", spec := "inlineSpans", inPlace := ["internal/bytealg.IndexByte", "internal/bytealg.Index", "internal/bytealg.CountString", "internal/bytealg.IndexByteString", "internal/bytealg.IndexString", "internal/abi.NoEscape", "internal/bytealg.MakeNoZero"], unfollowed := true, recurses := true, named := ["internal/bytealg.MaxLen", "scholium/double.shorts", "unicode/utf8.first", "unicode/utf8.acceptRanges"], apart := false, laid := [("unicode/utf8.acceptRanges", laid_unicode_utf8_acceptRanges), ("scholium/double.shorts", laid_scholium_double_shorts), ("unicode/utf8.first", laid_unicode_utf8_first)], narrowed := true }
def InlineSpansUptoSaid : Prop := inlineSpansUptoRow.holds Tryz.pinned (OpenSpec.upto inlineSpansSpec)

end Rows
end Go.Proofs.YtocjegmacpmpoaaGreatDoor
