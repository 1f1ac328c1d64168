/-
  NARROWER THAN 'FOR EVERY INPUT', by the rows' own cells (each row's printed sentence says how): StyleKeys: laid · StyleTells: laid · StyleBack: laid.
  DERIVED. THE GIVEN ROWS OF THIS SEAT. 3 by the template 'for every input the law returns true; each argument reads behind the call as it read before'; 0 by the template 'total and deterministic' (their statements: YtdjpdcjljpmfnaaDoorTotals.lean).
  GIVEN WITH THE SEED: the statements are not yours to turn. If you find one false, say at which input.
  Laid BY PROGRAM, IN A SANDBOX (cutbox-rows.mjs): the forced cells as the released guide's own fill.sh prints them over the translation 5d236853d4a2fafd… (all of the seat's roots in one cut). By AI agents, Wed Nov 11 2026. No macro, syntax, notation, axiom, sorry.
-/
import Derived.Test.YtdjpdcjljpmfnaaDoorChecked
import GoSem.PinnedTables
import GoSem.Claim
import GoSem.ClaimJoined
import GoSem.ClaimMapViews
import Derived.JoinedTies
import Derived.KernelRfl
namespace Go.Proofs.YtdjpdcjljpmfnaaDoor
/- THE CELL 'sum', in the pinned program and in every row, IS THE sha256 OF THE DUMP (.gsa) THAT YtdjpdcjljpmfnaaDoorProg.lean LOADS. Nothing in Lean hashes anything: it is a label: what it is worth is what the hold of that sum in a sandbox is worth. -/
noncomputable def Tryd.pinned : Pinned := { name := "ytdjpdcjljpmfnaadoor", sum := "5d236853d4a2fafd6a2639e27e83ef9e5c22b8b653da088231c3b3cf431823f3", checked := Tryd.checked }
namespace Rows
def none {H : Type} : Left H := { results := [], args := [] }

/- WHAT THE LISTED PACKAGE-LEVEL VARIABLES READ AS WHEN THE CALL BEGINS. Each datum BY PROGRAM (the guide's laid-datum.mjs) off the statement by which the dump's own 'gosem.cut.vars' lays the variable. In a bare row this is a premise. The card (YtdjpdcjljpmfnaaDoorCards.lean) ties it to the program's text. -/
def laid_unicode_utf8_acceptRanges {H : Type} : DataW H := .agg [.agg [.lit (.int .u8 128), .lit (.int .u8 191)], .agg [.lit (.int .u8 160), .lit (.int .u8 191)], .agg [.lit (.int .u8 128), .lit (.int .u8 159)], .agg [.lit (.int .u8 144), .lit (.int .u8 191)], .agg [.lit (.int .u8 128), .lit (.int .u8 143)], .agg [.lit (.int .u8 0), .lit (.int .u8 0)], .agg [.lit (.int .u8 0), .lit (.int .u8 0)], .agg [.lit (.int .u8 0), .lit (.int .u8 0)], .agg [.lit (.int .u8 0), .lit (.int .u8 0)], .agg [.lit (.int .u8 0), .lit (.int .u8 0)], .agg [.lit (.int .u8 0), .lit (.int .u8 0)], .agg [.lit (.int .u8 0), .lit (.int .u8 0)], .agg [.lit (.int .u8 0), .lit (.int .u8 0)], .agg [.lit (.int .u8 0), .lit (.int .u8 0)], .agg [.lit (.int .u8 0), .lit (.int .u8 0)], .agg [.lit (.int .u8 0), .lit (.int .u8 0)]]
def laid_scholium_double_shorts {H : Type} : DataW H := .agg [.agg [.lit (.int .u8 48), .lit (.int .i32 0)], .agg [.lit (.int .u8 97), .lit (.int .i32 7)], .agg [.lit (.int .u8 98), .lit (.int .i32 8)], .agg [.lit (.int .u8 116), .lit (.int .i32 9)], .agg [.lit (.int .u8 110), .lit (.int .i32 10)], .agg [.lit (.int .u8 118), .lit (.int .i32 11)], .agg [.lit (.int .u8 102), .lit (.int .i32 12)], .agg [.lit (.int .u8 114), .lit (.int .i32 13)], .agg [.lit (.int .u8 101), .lit (.int .i32 27)], .agg [.lit (.int .u8 34), .lit (.int .i32 34)], .agg [.lit (.int .u8 92), .lit (.int .i32 92)], .agg [.lit (.int .u8 78), .lit (.int .i32 133)], .agg [.lit (.int .u8 95), .lit (.int .i32 160)], .agg [.lit (.int .u8 76), .lit (.int .i32 8232)], .agg [.lit (.int .u8 80), .lit (.int .i32 8233)]]
/-- One of Go's own tables, pinned by name: the form's constant. -/
def laid_unicode_utf8_first : DataW Unit := Go.Pinned.utf8First

/-- 'scholiumlaw09.StyleKeys': WHATEVER THE INPUT: true; the input reads as it did. -/
def styleKeysSpec : ChangeSpec := { name := "styleKeys", fn := fun _ => fun
  | [d1, d2, d3] => { results := [.lit (.bool true)], args := [d1, d2, d3] }
  | _ => none }
def styleKeysRow : OpenClaim := { program := "ytdjpdcjljpmfnaadoor", sum := "5d236853d4a2fafd6a2639e27e83ef9e5c22b8b653da088231c3b3cf431823f3", func := "scholium/scholiumlaw09.StyleKeys", spec := "styleKeys", inPlace := ["internal/bytealg.IndexByteString", "internal/bytealg.IndexString"], named := ["unicode/utf8.first", "unicode/utf8.acceptRanges", "scholium/double.shorts", "internal/bytealg.MaxLen"], apart := false, laid := [("unicode/utf8.acceptRanges", laid_unicode_utf8_acceptRanges), ("scholium/double.shorts", laid_scholium_double_shorts), ("unicode/utf8.first", laid_unicode_utf8_first)] }
def StyleKeysSaid : Prop := styleKeysRow.holds Tryd.pinned (OpenSpec.ofChange styleKeysSpec)

/-- ITS FALSE NEIGHBOUR: 'it returns false'. Refute it at one input. -/
def styleKeysWrong : ChangeSpec := { name := "styleKeys", fn := fun _ => fun
  | [d1, d2, d3] => { results := [.lit (.bool false)], args := [d1, d2, d3] }
  | _ => none }
def StyleKeysWrongFalsely : Prop := styleKeysRow.holds Tryd.pinned (OpenSpec.ofChange styleKeysWrong)

/-- 'scholiumlaw09.StyleTells': WHATEVER THE INPUT: true; the input reads as it did. -/
def styleTellsSpec : ChangeSpec := { name := "styleTells", fn := fun _ => fun
  | [d1, d2, d3, d4] => { results := [.lit (.bool true)], args := [d1, d2, d3, d4] }
  | _ => none }
def styleTellsRow : OpenClaim := { program := "ytdjpdcjljpmfnaadoor", sum := "5d236853d4a2fafd6a2639e27e83ef9e5c22b8b653da088231c3b3cf431823f3", func := "scholium/scholiumlaw09.StyleTells", spec := "styleTells", inPlace := ["internal/bytealg.IndexByteString", "internal/bytealg.IndexString"], named := ["unicode/utf8.first", "unicode/utf8.acceptRanges", "scholium/double.shorts", "internal/bytealg.MaxLen"], apart := false, laid := [("unicode/utf8.acceptRanges", laid_unicode_utf8_acceptRanges), ("scholium/double.shorts", laid_scholium_double_shorts), ("unicode/utf8.first", laid_unicode_utf8_first)] }
def StyleTellsSaid : Prop := styleTellsRow.holds Tryd.pinned (OpenSpec.ofChange styleTellsSpec)

/-- ITS FALSE NEIGHBOUR: 'it returns false'. Refute it at one input. -/
def styleTellsWrong : ChangeSpec := { name := "styleTells", fn := fun _ => fun
  | [d1, d2, d3, d4] => { results := [.lit (.bool false)], args := [d1, d2, d3, d4] }
  | _ => none }
def StyleTellsWrongFalsely : Prop := styleTellsRow.holds Tryd.pinned (OpenSpec.ofChange styleTellsWrong)

/-- 'scholiumlaw09.StyleBack': WHATEVER THE INPUT: true; the input reads as it did. -/
def styleBackSpec : ChangeSpec := { name := "styleBack", fn := fun _ => fun
  | [d1, d2] => { results := [.lit (.bool true)], args := [d1, d2] }
  | _ => none }
def styleBackRow : OpenClaim := { program := "ytdjpdcjljpmfnaadoor", sum := "5d236853d4a2fafd6a2639e27e83ef9e5c22b8b653da088231c3b3cf431823f3", func := "scholium/scholiumlaw09.StyleBack", spec := "styleBack", inPlace := ["internal/bytealg.IndexByteString", "internal/bytealg.IndexString"], named := ["unicode/utf8.first", "unicode/utf8.acceptRanges", "scholium/double.shorts", "internal/bytealg.MaxLen"], apart := false, laid := [("unicode/utf8.acceptRanges", laid_unicode_utf8_acceptRanges), ("scholium/double.shorts", laid_scholium_double_shorts), ("unicode/utf8.first", laid_unicode_utf8_first)] }
def StyleBackSaid : Prop := styleBackRow.holds Tryd.pinned (OpenSpec.ofChange styleBackSpec)

/-- ITS FALSE NEIGHBOUR: 'it returns false'. Refute it at one input. -/
def styleBackWrong : ChangeSpec := { name := "styleBack", fn := fun _ => fun
  | [d1, d2] => { results := [.lit (.bool false)], args := [d1, d2] }
  | _ => none }
def StyleBackWrongFalsely : Prop := styleBackRow.holds Tryd.pinned (OpenSpec.ofChange styleBackWrong)

/- THE SECOND FORM. 'bulk': how many values and letters a reading holds, each counted each time it is reached (what is shared counts as often as it is met; a slice's spare places count too). A statement '..UptoSaid' is the law's where the arguments, and the package variables that the reading takes, are together of bulk at most 1048576: NARROWER than '..Said'. Prove '..Said' where nothing that the law and all that it calls make is longer than what came in: it says more and counts as full. Else prove '..UptoSaid'. A law counts once. -/
mutual
def uptoBulk {H : Type} : DataW H → Nat
  | .lit (.string bytes) => bytes.length + 1
  | .lit _ => 1
  | .nil => 1
  | .ptr d => uptoBulk d + 1
  | .slice elems spare => uptoBulkAll elems + uptoBulkAll spare + 1
  | .agg parts => uptoBulkAll parts + 1
  | .iface _ d => uptoBulk d + 1
  | .map entries => uptoBulkEntries entries + 1
  | .held _ => 1
def uptoBulkAll {H : Type} : List (DataW H) → Nat
  | [] => 0
  | d :: r => uptoBulk d + uptoBulkAll r
def uptoBulkEntries {H : Type} : List (Lit × DataW H) → Nat
  | [] => 0
  | x :: r => uptoBulkEntry x + uptoBulkEntries r
def uptoBulkEntry {H : Type} : Lit × DataW H → Nat
  | (.string bytes, d) => bytes.length + uptoBulk d + 1
  | (_, d) => uptoBulk d + 1
 end
def uptoSmall : (H : Type) → List (DataW H) → Bool := fun _ ds => decide (uptoBulkAll ds ≤ 1048576)
def OpenSpec.upto (s : _root_.Go.ChangeSpec) : _root_.Go.OpenSpec := { _root_.Go.OpenSpec.ofChange s with cond := some uptoSmall }

/-- 'scholiumlaw09.StyleKeys', WHERE WHAT IT READS IS OF BULK AT MOST 1048576: true; the input reads as it did. -/
def styleKeysUptoRow : OpenClaim := { program := "ytdjpdcjljpmfnaadoor", sum := "5d236853d4a2fafd6a2639e27e83ef9e5c22b8b653da088231c3b3cf431823f3", func := "scholium/scholiumlaw09.StyleKeys", spec := "styleKeys", inPlace := ["internal/bytealg.IndexByteString", "internal/bytealg.IndexString"], named := ["unicode/utf8.first", "unicode/utf8.acceptRanges", "scholium/double.shorts", "internal/bytealg.MaxLen"], apart := false, laid := [("unicode/utf8.acceptRanges", laid_unicode_utf8_acceptRanges), ("scholium/double.shorts", laid_scholium_double_shorts), ("unicode/utf8.first", laid_unicode_utf8_first)], narrowed := true }
def StyleKeysUptoSaid : Prop := styleKeysUptoRow.holds Tryd.pinned (OpenSpec.upto styleKeysSpec)

/-- 'scholiumlaw09.StyleTells', WHERE WHAT IT READS IS OF BULK AT MOST 1048576: true; the input reads as it did. -/
def styleTellsUptoRow : OpenClaim := { program := "ytdjpdcjljpmfnaadoor", sum := "5d236853d4a2fafd6a2639e27e83ef9e5c22b8b653da088231c3b3cf431823f3", func := "scholium/scholiumlaw09.StyleTells", spec := "styleTells", inPlace := ["internal/bytealg.IndexByteString", "internal/bytealg.IndexString"], named := ["unicode/utf8.first", "unicode/utf8.acceptRanges", "scholium/double.shorts", "internal/bytealg.MaxLen"], apart := false, laid := [("unicode/utf8.acceptRanges", laid_unicode_utf8_acceptRanges), ("scholium/double.shorts", laid_scholium_double_shorts), ("unicode/utf8.first", laid_unicode_utf8_first)], narrowed := true }
def StyleTellsUptoSaid : Prop := styleTellsUptoRow.holds Tryd.pinned (OpenSpec.upto styleTellsSpec)

/-- 'scholiumlaw09.StyleBack', WHERE WHAT IT READS IS OF BULK AT MOST 1048576: true; the input reads as it did. -/
def styleBackUptoRow : OpenClaim := { program := "ytdjpdcjljpmfnaadoor", sum := "5d236853d4a2fafd6a2639e27e83ef9e5c22b8b653da088231c3b3cf431823f3", func := "scholium/scholiumlaw09.StyleBack", spec := "styleBack", inPlace := ["internal/bytealg.IndexByteString", "internal/bytealg.IndexString"], named := ["unicode/utf8.first", "unicode/utf8.acceptRanges", "scholium/double.shorts", "internal/bytealg.MaxLen"], apart := false, laid := [("unicode/utf8.acceptRanges", laid_unicode_utf8_acceptRanges), ("scholium/double.shorts", laid_scholium_double_shorts), ("unicode/utf8.first", laid_unicode_utf8_first)], narrowed := true }
def StyleBackUptoSaid : Prop := styleBackUptoRow.holds Tryd.pinned (OpenSpec.upto styleBackSpec)

end Rows
end Go.Proofs.YtdjpdcjljpmfnaaDoor
