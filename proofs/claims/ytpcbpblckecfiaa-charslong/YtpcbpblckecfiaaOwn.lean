/- Rows of bytes that the call itself makes; '[]byte' of a text, and back. -/
import Derived.Test.YtpcbpblckecfiaaCheck
import Derived.Laws.MakeOwn
import Derived.Laws.OwnMore
import Derived.Laws.BytesArg
import Derived.Lib.ConvBytes
namespace Go.Proofs.Ytpcbpblckecfiaa
open Go.RowKit
set_option linter.unusedVariables false

def cellsB (zs : List Int) : Array Value := (zs.map (Value.int .u8)).toArray
theorem cellsB_at {zs : List Int} (k : Nat) (z : Int) (h : zs[k]? = some z) : (cellsB zs)[k]? = some (Value.int .u8 z) := by
  simp [cellsB, h]
def OwnB (W : World) (g : Nat) (zs : List Int) : Prop := W.heap[g]? = some (.cells (cellsB zs) 5 (0, 0))
section
variable {W W' : World} {g : Nat} {zs : List Int}
theorem OwnB.lt (h : OwnB W g zs) : g < W.heap.size := by
  rcases Nat.lt_or_ge g W.heap.size with hlt | hge
  · exact hlt
  · unfold OwnB at h; rw [Array.getElem?_eq_none hge] at h; cases h
theorem OwnB.at_ (h : OwnB W g zs) (k : Nat) (z : Int) (hz : zs[k]? = some z) : W.cell? ⟨g, k, none⟩ = some (.int .u8 z) := by
  unfold OwnB at h; simp [World.cell?, h, cellsB_at k z hz]
theorem OwnB.rd (h : OwnB W g zs) : RdB W (some ⟨g, 0, none⟩) zs := fun k z hz => ⟨_, _, rfl, by rw [Nat.zero_add]; exact h.at_ k z hz⟩
theorem OwnB.frozen (h : OwnB W g zs) (k : Nat) : W.frozen? ⟨g, k, none⟩ = false := by
  unfold OwnB at h; simp [World.frozen?, h]
theorem OwnB.set (h : OwnB W g zs) (k : Nat) (v : Int) : OwnB (W.setCell ⟨g, k, none⟩ (.int .u8 v)) g (zs.set k v) := by
  unfold OwnB at h ⊢
  simp [World.setCell, Array.getElem?_modify, h, cellsB, List.map_set]
theorem OwnB.below (h : OwnB W g zs) (hb : Below W.heap.size W W') : OwnB W' g zs := (hb.block g h.lt).trans h
end
theorem OwnB.new (w : World) (zs : List Int) : OwnB (w.alloc (.cells (cellsB zs) 5)) w.heap.size zs := heap_alloc_new w _

theorem byte_info : (Try.prog.info? 5).map (fun i => (i.zero, i.size, i.bytes)) = some (some (.int .u8 0), 1, 1) := by kernel_rfl

theorem run_make_bytes (n : Nat) (h : n ≤ 70000) (w : World) :
    (Instr.makeSlice 27 (.int .i64 (n : Int)) (.int .i64 (n : Int))).run Try.prog w = .ok (.slice (some ⟨w.heap.size, 0, none⟩) n n) (w.alloc (.cells (cellsB (List.replicate n 0)) 5)) := by
  obtain ⟨i, hi, hz, h1, h2⟩ := info_parts byte_info
  have hb : (i.bytes : Int) * (n : Int) ≤ 281474976710656 := by rw [h2]; omega
  have hr := run_make (P := Try.prog) w 27 5 i _ Try.underlying27 hi hz .i64 .i64 n n (by omega) (by omega) hb (by omega)
  simp only [Int.toNat_natCast] at hr
  rw [hr]
  have e : madeCells (Value.int IntKind.u8 0).cells (n * i.size) = cellsB (List.replicate n 0) := by
    rw [h1, Nat.mul_one]
    apply Array.toList_inj.1
    have : (Value.int IntKind.u8 0).cells = #[.int .u8 0] := rfl
    rw [this, toList_madeCells_one]
    simp [cellsB]
  rw [e]

theorem byt_strOfNums (zs : List Int) (h : Byte zs) : byt (strOfNums zs) = zs := by
  unfold byt
  rw [strOfNums_data, List.map_map]
  have : ∀ z ∈ zs, ((fun c : UInt8 => (c.toNat : Int)) ∘ fun n : Int => UInt8.ofNat n.toNat) z = z := by
    intro z hz
    have := h z hz
    simp only [Function.comp]
    rw [UInt8.toNat_ofNat']
    omega
  rw [List.map_congr_left this]
  simp

theorem run_string_of (W : World) (g n : Nat) (zs : List Int) (hl : zs.length = n) (h : OwnB W g zs) :
    (convert 27 9 (.slice (some ⟨g, 0, none⟩) n n)).run Try.prog W = .ok (.string (strOfNums zs)) W :=
  run_convert_bytes_arg (P := Try.prog) W 27 5 Try.underlying27 Try.underlying5 g 0 n n zs hl (fun i hi => by rw [Nat.zero_add]; exact h.at_ i _ (getD_at (by omega))) 9 Try.underlying9
end Go.Proofs.Ytpcbpblckecfiaa
