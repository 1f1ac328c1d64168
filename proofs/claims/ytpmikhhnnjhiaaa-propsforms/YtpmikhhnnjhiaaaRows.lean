/-
  No cell of these rows narrows 'for every input' (looked for: loops, veiled, ifaces, maps, wideKeys, modest, calm, conditions, laid).
  DERIVED. THE GIVEN ROWS OF THIS SEAT. 5 by the template 'for every input the law returns true; each argument reads behind the call as it read before'; 0 by the template 'total and deterministic' (their statements: YtpmikhhnnjhiaaaTotals.lean).
  GIVEN WITH THE SEED: the statements are not yours to turn. If you find one false, say at which input.
  Laid BY PROGRAM, IN A SANDBOX (cutbox-rows.mjs): the forced cells as the released guide's own fill.sh prints them over the translation f1b756cdf61f3f29… (all of the seat's roots in one cut). By AI agents, Wed Nov 11 2026. No macro, syntax, notation, axiom, sorry.
-/
import Derived.Test.YtpmikhhnnjhiaaaChecked
import GoSem.Claim
import GoSem.ClaimJoined
import GoSem.ClaimMapViews
import Derived.JoinedTies
import Derived.KernelRfl
namespace Go.Proofs.Ytpmikhhnnjhiaaa
/- THE CELL 'sum', in the pinned program and in every row, IS THE sha256 OF THE DUMP (.gsa) THAT YtpmikhhnnjhiaaaProg.lean LOADS. Nothing in Lean hashes anything: it is a label: what it is worth is what the hold of that sum in a sandbox is worth. -/
noncomputable def Try.pinned : Pinned := { name := "ytpmikhhnnjhiaaa", sum := "f1b756cdf61f3f294b6280ebf0f95485cbdfe2ec754a2c49e7a347737c269bca", checked := Try.checked }
namespace Rows
def none {H : Type} : Left H := { results := [], args := [] }

/-- 'scholiumlaw10.PropsForms': WHATEVER THE INPUT: true; the input reads as it did. -/
def propsFormsSpec : ChangeSpec := { name := "propsForms", fn := fun _ => fun
  | [d] => { results := [.lit (.bool true)], args := [d] }
  | _ => none }
def propsFormsRow : OpenClaim := { program := "ytpmikhhnnjhiaaa", sum := "f1b756cdf61f3f294b6280ebf0f95485cbdfe2ec754a2c49e7a347737c269bca", func := "scholium/scholiumlaw10.PropsForms", spec := "propsForms", inPlace := ["internal/bytealg.IndexByte", "internal/bytealg.Index"], named := ["internal/bytealg.MaxLen"], apart := false }
def PropsFormsSaid : Prop := propsFormsRow.holds Try.pinned (OpenSpec.ofChange propsFormsSpec)

/-- ITS FALSE NEIGHBOUR: 'it returns false'. Refute it at one input. -/
def propsFormsWrong : ChangeSpec := { name := "propsForms", fn := fun _ => fun
  | [d] => { results := [.lit (.bool false)], args := [d] }
  | _ => none }
def PropsFormsWrongFalsely : Prop := propsFormsRow.holds Try.pinned (OpenSpec.ofChange propsFormsWrong)

/-- 'scholiumlaw10.PropsAliases': WHATEVER THE INPUT: true; the input reads as it did. -/
def propsAliasesSpec : ChangeSpec := { name := "propsAliases", fn := fun _ => fun
  | [d1, d2] => { results := [.lit (.bool true)], args := [d1, d2] }
  | _ => none }
def propsAliasesRow : OpenClaim := { program := "ytpmikhhnnjhiaaa", sum := "f1b756cdf61f3f294b6280ebf0f95485cbdfe2ec754a2c49e7a347737c269bca", func := "scholium/scholiumlaw10.PropsAliases", spec := "propsAliases", inPlace := ["internal/bytealg.IndexByte", "internal/bytealg.Index"], named := ["internal/bytealg.MaxLen"], apart := false }
def PropsAliasesSaid : Prop := propsAliasesRow.holds Try.pinned (OpenSpec.ofChange propsAliasesSpec)

/-- ITS FALSE NEIGHBOUR: 'it returns false'. Refute it at one input. -/
def propsAliasesWrong : ChangeSpec := { name := "propsAliases", fn := fun _ => fun
  | [d1, d2] => { results := [.lit (.bool false)], args := [d1, d2] }
  | _ => none }
def PropsAliasesWrongFalsely : Prop := propsAliasesRow.holds Try.pinned (OpenSpec.ofChange propsAliasesWrong)

/-- 'scholiumlaw10.PropsTell': WHATEVER THE INPUT: true; the input reads as it did. -/
def propsTellSpec : ChangeSpec := { name := "propsTell", fn := fun _ => fun
  | [d1, d2, d3, d4, d5] => { results := [.lit (.bool true)], args := [d1, d2, d3, d4, d5] }
  | _ => none }
def propsTellRow : OpenClaim := { program := "ytpmikhhnnjhiaaa", sum := "f1b756cdf61f3f294b6280ebf0f95485cbdfe2ec754a2c49e7a347737c269bca", func := "scholium/scholiumlaw10.PropsTell", spec := "propsTell", inPlace := ["internal/bytealg.IndexByte", "internal/bytealg.Index"], named := ["internal/bytealg.MaxLen"], apart := false }
def PropsTellSaid : Prop := propsTellRow.holds Try.pinned (OpenSpec.ofChange propsTellSpec)

/-- ITS FALSE NEIGHBOUR: 'it returns false'. Refute it at one input. -/
def propsTellWrong : ChangeSpec := { name := "propsTell", fn := fun _ => fun
  | [d1, d2, d3, d4, d5] => { results := [.lit (.bool false)], args := [d1, d2, d3, d4, d5] }
  | _ => none }
def PropsTellWrongFalsely : Prop := propsTellRow.holds Try.pinned (OpenSpec.ofChange propsTellWrong)

/-- 'scholiumlaw10.PropsBack': WHATEVER THE INPUT: true; the input reads as it did. -/
def propsBackSpec : ChangeSpec := { name := "propsBack", fn := fun _ => fun
  | [d1, d2, d3, d4] => { results := [.lit (.bool true)], args := [d1, d2, d3, d4] }
  | _ => none }
def propsBackRow : OpenClaim := { program := "ytpmikhhnnjhiaaa", sum := "f1b756cdf61f3f294b6280ebf0f95485cbdfe2ec754a2c49e7a347737c269bca", func := "scholium/scholiumlaw10.PropsBack", spec := "propsBack", inPlace := ["internal/bytealg.IndexByte", "internal/bytealg.Index"], named := ["internal/bytealg.MaxLen"], apart := false }
def PropsBackSaid : Prop := propsBackRow.holds Try.pinned (OpenSpec.ofChange propsBackSpec)

/-- ITS FALSE NEIGHBOUR: 'it returns false'. Refute it at one input. -/
def propsBackWrong : ChangeSpec := { name := "propsBack", fn := fun _ => fun
  | [d1, d2, d3, d4] => { results := [.lit (.bool false)], args := [d1, d2, d3, d4] }
  | _ => none }
def PropsBackWrongFalsely : Prop := propsBackRow.holds Try.pinned (OpenSpec.ofChange propsBackWrong)

/-- 'scholiumlaw10.PropsLong': WHATEVER THE INPUT: true; the input reads as it did. -/
def propsLongSpec : ChangeSpec := { name := "propsLong", fn := fun _ => fun
  | [d1, d2, d3] => { results := [.lit (.bool true)], args := [d1, d2, d3] }
  | _ => none }
def propsLongRow : OpenClaim := { program := "ytpmikhhnnjhiaaa", sum := "f1b756cdf61f3f294b6280ebf0f95485cbdfe2ec754a2c49e7a347737c269bca", func := "scholium/scholiumlaw10.PropsLong", spec := "propsLong", inPlace := ["internal/bytealg.IndexByte", "internal/bytealg.Index"], named := ["internal/bytealg.MaxLen"], apart := false }
def PropsLongSaid : Prop := propsLongRow.holds Try.pinned (OpenSpec.ofChange propsLongSpec)

/-- ITS FALSE NEIGHBOUR: 'it returns false'. Refute it at one input. -/
def propsLongWrong : ChangeSpec := { name := "propsLong", fn := fun _ => fun
  | [d1, d2, d3] => { results := [.lit (.bool false)], args := [d1, d2, d3] }
  | _ => none }
def PropsLongWrongFalsely : Prop := propsLongRow.holds Try.pinned (OpenSpec.ofChange propsLongWrong)

/- THE SECOND FORM. 'bulk': how many values and letters a reading holds, each counted each time it is reached (what is shared counts as often as it is met; a slice's spare places count too). A statement '..UptoSaid' is the law's where the arguments, and the package variables that the reading takes, are together of bulk at most 1048576: NARROWER than '..Said'. Prove '..Said' where nothing that the law and all that it calls make is longer than what came in: it says more and counts as full. Else prove '..UptoSaid'. A law counts once. -/
mutual
def uptoBulk {H : Type} : DataW H → Nat
  | .lit (.string bytes) => bytes.length + 1
  | .lit _ => 1
  | .nil => 1
  | .ptr d => uptoBulk d + 1
  | .slice elems spare => uptoBulkAll elems + uptoBulkAll spare + 1
  | .agg parts => uptoBulkAll parts + 1
  | .iface _ d => uptoBulk d + 1
  | .map entries => uptoBulkEntries entries + 1
  | .held _ => 1
def uptoBulkAll {H : Type} : List (DataW H) → Nat
  | [] => 0
  | d :: r => uptoBulk d + uptoBulkAll r
def uptoBulkEntries {H : Type} : List (Lit × DataW H) → Nat
  | [] => 0
  | x :: r => uptoBulkEntry x + uptoBulkEntries r
def uptoBulkEntry {H : Type} : Lit × DataW H → Nat
  | (.string bytes, d) => bytes.length + uptoBulk d + 1
  | (_, d) => uptoBulk d + 1
 end
def uptoSmall : (H : Type) → List (DataW H) → Bool := fun _ ds => decide (uptoBulkAll ds ≤ 1048576)
def OpenSpec.upto (s : _root_.Go.ChangeSpec) : _root_.Go.OpenSpec := { _root_.Go.OpenSpec.ofChange s with cond := some uptoSmall }

/-- 'scholiumlaw10.PropsForms', WHERE WHAT IT READS IS OF BULK AT MOST 1048576: true; the input reads as it did. -/
def propsFormsUptoRow : OpenClaim := { program := "ytpmikhhnnjhiaaa", sum := "f1b756cdf61f3f294b6280ebf0f95485cbdfe2ec754a2c49e7a347737c269bca", func := "scholium/scholiumlaw10.PropsForms", spec := "propsForms", inPlace := ["internal/bytealg.IndexByte", "internal/bytealg.Index"], named := ["internal/bytealg.MaxLen"], apart := false, narrowed := true }
def PropsFormsUptoSaid : Prop := propsFormsUptoRow.holds Try.pinned (OpenSpec.upto propsFormsSpec)

/-- 'scholiumlaw10.PropsAliases', WHERE WHAT IT READS IS OF BULK AT MOST 1048576: true; the input reads as it did. -/
def propsAliasesUptoRow : OpenClaim := { program := "ytpmikhhnnjhiaaa", sum := "f1b756cdf61f3f294b6280ebf0f95485cbdfe2ec754a2c49e7a347737c269bca", func := "scholium/scholiumlaw10.PropsAliases", spec := "propsAliases", inPlace := ["internal/bytealg.IndexByte", "internal/bytealg.Index"], named := ["internal/bytealg.MaxLen"], apart := false, narrowed := true }
def PropsAliasesUptoSaid : Prop := propsAliasesUptoRow.holds Try.pinned (OpenSpec.upto propsAliasesSpec)

/-- 'scholiumlaw10.PropsTell', WHERE WHAT IT READS IS OF BULK AT MOST 1048576: true; the input reads as it did. -/
def propsTellUptoRow : OpenClaim := { program := "ytpmikhhnnjhiaaa", sum := "f1b756cdf61f3f294b6280ebf0f95485cbdfe2ec754a2c49e7a347737c269bca", func := "scholium/scholiumlaw10.PropsTell", spec := "propsTell", inPlace := ["internal/bytealg.IndexByte", "internal/bytealg.Index"], named := ["internal/bytealg.MaxLen"], apart := false, narrowed := true }
def PropsTellUptoSaid : Prop := propsTellUptoRow.holds Try.pinned (OpenSpec.upto propsTellSpec)

/-- 'scholiumlaw10.PropsBack', WHERE WHAT IT READS IS OF BULK AT MOST 1048576: true; the input reads as it did. -/
def propsBackUptoRow : OpenClaim := { program := "ytpmikhhnnjhiaaa", sum := "f1b756cdf61f3f294b6280ebf0f95485cbdfe2ec754a2c49e7a347737c269bca", func := "scholium/scholiumlaw10.PropsBack", spec := "propsBack", inPlace := ["internal/bytealg.IndexByte", "internal/bytealg.Index"], named := ["internal/bytealg.MaxLen"], apart := false, narrowed := true }
def PropsBackUptoSaid : Prop := propsBackUptoRow.holds Try.pinned (OpenSpec.upto propsBackSpec)

/-- 'scholiumlaw10.PropsLong', WHERE WHAT IT READS IS OF BULK AT MOST 1048576: true; the input reads as it did. -/
def propsLongUptoRow : OpenClaim := { program := "ytpmikhhnnjhiaaa", sum := "f1b756cdf61f3f294b6280ebf0f95485cbdfe2ec754a2c49e7a347737c269bca", func := "scholium/scholiumlaw10.PropsLong", spec := "propsLong", inPlace := ["internal/bytealg.IndexByte", "internal/bytealg.Index"], named := ["internal/bytealg.MaxLen"], apart := false, narrowed := true }
def PropsLongUptoSaid : Prop := propsLongUptoRow.holds Try.pinned (OpenSpec.upto propsLongSpec)

end Rows
end Go.Proofs.Ytpmikhhnnjhiaaa
