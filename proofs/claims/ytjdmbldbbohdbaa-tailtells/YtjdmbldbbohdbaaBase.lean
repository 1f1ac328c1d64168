/- What every stage needs of memory: bytes that an address leads to, rows of cells, texts, appends, conversions. No function of the program. -/
import Derived.Test.YtjdmbldbbohdbaaRows
import Derived.WalkKit
import Derived.WalkSpells
import Derived.WalkLawsBesides
import Derived.Lib.Hide
import Derived.Lib.Strings
import Derived.Laws.MakeOwn
import Derived.Laws.OwnMore
import Derived.Laws.BytesArg
import Derived.Lib.ConvBytes
import Derived.Maps.AppendAt
import Derived.Laws.CopyRow
import Derived.Laws.CopyOwn
import Derived.Deep.QuietTactic
import Derived.BigQuiet
import Derived.ProofKit
import Derived.Lib.SlBytesConst
import Derived.OpenShut
namespace Go.Proofs.Ytjdmbldbbohdbaa
open Go.RowKit
set_option linter.unusedVariables false

theorem ret_bool {a b : Bool} (h : a = b) : Ending.returned (.bool a) = .returned (.bool b) := by rw [h]
theorem ret_int {k : IntKind} {a b : Int} (h : a = b) : Ending.returned (.int k a) = .returned (.int k b) := by rw [h]
theorem ret_str {a b : ByteArray} (h : a = b) : Ending.returned (.string a) = .returned (.string b) := by rw [h]
theorem bool_iff {a b : Bool} (h : a = true ↔ b = true) : a = b := by rwa [Bool.eq_iff_iff]
theorem getD_at {zs : List Int} {k : Nat} (h : k < zs.length) : zs[k]? = some (zs.getD k 0) := by
  rw [List.getElem?_eq_getElem h]; simp [List.getD, h]
theorem add_plain (b off k : Nat) : (⟨b, off, none⟩ : Addr).add k = ⟨b, off + k, none⟩ := by unfold Addr.add; split <;> simp_all
theorem below_draws {B : Nat} {a w : World} (h : Below B a w) (n : Nat) : Below B a (w.drewN n) := ⟨h.os, h.tape, h.output, h.size, h.block⟩
theorem below_step {a b c : World} (h : Below a.heap.size a b) (k : Below b.heap.size b c) : Below a.heap.size a c := h.trans (k.mono h.size)

/-! ### Texts as numbers -/
def byt (s : ByteArray) : List Int := s.data.toList.map fun c => (c.toNat : Int)
def Byte (zs : List Int) : Prop := ∀ z ∈ zs, 0 ≤ z ∧ z < 256
theorem byt_len (s : ByteArray) : (byt s).length = s.size := by simp [byt]
theorem byt_at (s : ByteArray) (k : Nat) (h : k < s.size) : (byt s)[k]? = some (s[k].toNat : Int) := by
  simp [byt]; exact ⟨s[k], by rw [Array.getElem?_eq_getElem (by simpa using h)]; rfl, rfl⟩
theorem byt_byte (s : ByteArray) : Byte (byt s) := by
  intro z hz; simp [byt] at hz; obtain ⟨c, _, rfl⟩ := hz; have := c.toNat_lt; omega
theorem byt_append (s t : ByteArray) : byt (s ++ t) = byt s ++ byt t := by simp [byt]
theorem byt_extract (s : ByteArray) (a b : Nat) : byt (s.extract a b) = ((byt s).drop a).take (b - a) := by
  unfold byt; rw [Lib.extract_data, List.map_take, List.map_drop]
theorem byt_inj {s t : ByteArray} (h : byt s = byt t) : s = t := by
  unfold byt at h
  have hi : ∀ a b : UInt8, ((fun c : UInt8 => (c.toNat : Int)) a = (fun c : UInt8 => (c.toNat : Int)) b) → a = b := by
    intro a b hab
    have : a.toNat = b.toNat := Int.ofNat.inj hab
    exact UInt8.toNat_inj.1 this
  have := (List.map_inj_right hi).1 h
  exact ByteArray.ext (Array.toList_inj.1 this)
theorem byt_strOfNums (zs : List Int) (h : Byte zs) : byt (strOfNums zs) = zs := by
  unfold byt
  rw [strOfNums_data, List.map_map]
  have : ∀ z ∈ zs, ((fun c : UInt8 => (c.toNat : Int)) ∘ fun n : Int => UInt8.ofNat n.toNat) z = z := by
    intro z hz
    have := h z hz
    simp only [Function.comp]
    rw [UInt8.toNat_ofNat']
    omega
  rw [List.map_congr_left this]
  simp
theorem strOfNums_byt (s : ByteArray) : strOfNums (byt s) = s := byt_inj (byt_strOfNums _ (byt_byte s))
theorem strOfNums_inj {zs ys : List Int} (hz : Byte zs) (hy : Byte ys) (h : strOfNums zs = strOfNums ys) : zs = ys := by
  rw [← byt_strOfNums zs hz, h, byt_strOfNums ys hy]
theorem Byte.drop {zs : List Int} (h : Byte zs) (m : Nat) : Byte (zs.drop m) := fun z hz => h z (List.mem_of_mem_drop hz)
theorem Byte.take {zs : List Int} (h : Byte zs) (m : Nat) : Byte (zs.take m) := fun z hz => h z (List.mem_of_mem_take hz)
theorem Byte.append {zs ys : List Int} (h : Byte zs) (k : Byte ys) : Byte (zs ++ ys) := fun z hz => by
  rcases List.mem_append.1 hz with h1 | h1
  · exact h z h1
  · exact k z h1
theorem Byte.at_ {zs : List Int} (h : Byte zs) {k : Nat} (hk : k < zs.length) : 0 ≤ zs.getD k 0 ∧ zs.getD k 0 < 256 := h _ (List.mem_of_getElem? (getD_at hk))

/-! ### Cells that an address leads to -/
def RdC (w : World) (A : Option Addr) (cs : List Value) : Prop := ∀ k v, cs[k]? = some v → ∃ b off, A = some ⟨b, off, none⟩ ∧ w.cell? ⟨b, off + k, none⟩ = some v
def RdB (w : World) (A : Option Addr) (zs : List Int) : Prop := ∀ k z, zs[k]? = some z → ∃ b off, A = some ⟨b, off, none⟩ ∧ w.cell? ⟨b, off + k, none⟩ = some (.int .u8 z)

section
variable {w w' : World} {A : Option Addr} {cs : List Value} {zs : List Int}
theorem RdB.toC (h : RdB w A zs) : RdC w A (zs.map (Value.int .u8)) := by
  intro k v hv
  rw [List.getElem?_map] at hv
  cases hz : zs[k]? with
  | none => rw [hz] at hv; simp at hv
  | some z => rw [hz] at hv; simp at hv; subst hv; exact h k z hz
theorem RdC.toB (h : RdC w A (zs.map (Value.int .u8))) : RdB w A zs := fun k z hz => h k _ (by simp [hz])
theorem RdC.addr (h : RdC w A cs) (hl : 0 < cs.length) : ∃ b off, A = some ⟨b, off, none⟩ ∧ ∀ k v, cs[k]? = some v → w.cell? ⟨b, off + k, none⟩ = some v := by
  cases cs with
  | nil => simp at hl
  | cons c t =>
    obtain ⟨b, off, rfl, _⟩ := h 0 c rfl
    refine ⟨b, off, rfl, fun k v hv => ?_⟩
    obtain ⟨b', off', e, hc⟩ := h k v hv
    injection e with e
    injection e with e1 e2
    subst e1 e2
    exact hc
theorem RdB.addr (h : RdB w A zs) (hl : 0 < zs.length) : ∃ b off, A = some ⟨b, off, none⟩ ∧ ∀ k, k < zs.length → w.cell? ⟨b, off + k, none⟩ = some (.int .u8 (zs.getD k 0)) := by
  obtain ⟨b, off, e, hc⟩ := h.toC.addr (by simpa using hl)
  exact ⟨b, off, e, fun k hk => hc k _ (by rw [List.getElem?_map, getD_at hk]; rfl)⟩
theorem RdC.none_ (h : RdC w none cs) : cs = [] := by
  cases cs with
  | nil => rfl
  | cons c t => obtain ⟨b, off, e, _⟩ := h 0 c rfl; cases e
theorem RdB.none_ (h : RdB w none zs) : zs = [] := by simpa using h.toC.none_
theorem RdC.nil (w : World) (A : Option Addr) : RdC w A [] := fun k v h => by simp at h
theorem RdB.nil (w : World) (A : Option Addr) : RdB w A [] := fun k v h => by simp at h
theorem RdC.below (h : RdC w A cs) (hb : Below w.heap.size w w') : RdC w' A cs := by
  intro k v hv
  obtain ⟨b, off, e, hc⟩ := h k v hv
  exact ⟨b, off, e, by rw [hb.cell (p := ⟨b, off + k, none⟩) (World.block_lt_of_cell? _ _ hc)]; exact hc⟩
theorem RdB.below (h : RdB w A zs) (hb : Below w.heap.size w w') : RdB w' A zs := (h.toC.below hb).toB
theorem RdC.cast (h : RdC w A cs) (hc : ∀ b o v, w.cell? ⟨b, o, none⟩ = some v → w'.cell? ⟨b, o, none⟩ = some v) : RdC w' A cs := by
  intro k v hv
  obtain ⟨b, off, e, h1⟩ := h k v hv
  exact ⟨b, off, e, hc _ _ _ h1⟩
theorem RdB.cast (h : RdB w A zs) (hc : ∀ b o v, w.cell? ⟨b, o, none⟩ = some v → w'.cell? ⟨b, o, none⟩ = some v) : RdB w' A zs := (h.toC.cast hc).toB
theorem RdC.drop {b off : Nat} (h : RdC w (some ⟨b, off, none⟩) cs) (m : Nat) : RdC w (some ⟨b, off + m, none⟩) (cs.drop m) := by
  intro k v hv
  rw [List.getElem?_drop] at hv
  obtain ⟨b', off', e, hc⟩ := h _ v hv
  injection e with e
  injection e with e1 e2
  subst e1 e2
  exact ⟨b, off + m, rfl, by rw [Nat.add_assoc]; exact hc⟩
theorem RdB.drop {b off : Nat} (h : RdB w (some ⟨b, off, none⟩) zs) (m : Nat) : RdB w (some ⟨b, off + m, none⟩) (zs.drop m) := by
  have := h.toC.drop m
  rw [← List.map_drop] at this
  exact this.toB
theorem RdC.take (h : RdC w A cs) (m : Nat) : RdC w A (cs.take m) := by
  intro k v hv
  rw [List.getElem?_take] at hv
  split at hv
  · exact h k v hv
  · cases hv
theorem RdB.take (h : RdB w A zs) (m : Nat) : RdB w A (zs.take m) := by
  have := h.toC.take m
  rw [← List.map_take] at this
  exact this.toB
theorem RdC.new {C : Array Value} {T : TypeId} {fz : Nat × Nat} {g : Nat} (hg : g = w.heap.size) (h : ∀ (k : Nat) (v : Value), cs[k]? = some v → C[k]? = some v) : RdC (w.alloc (.cells C T fz)) (some ⟨g, 0, none⟩) cs := by
  subst hg
  intro k v hv
  refine ⟨_, _, rfl, ?_⟩
  rw [Nat.zero_add, World.cell?_alloc_mark]
  exact h k v hv
theorem RdB.new {C : Array Value} {T : TypeId} {fz : Nat × Nat} {g : Nat} (hg : g = w.heap.size) (h : ∀ (k : Nat) (z : Int), zs[k]? = some z → C[k]? = some (Value.int .u8 z)) : RdB (w.alloc (.cells C T fz)) (some ⟨g, 0, none⟩) zs := by
  refine (RdC.new hg fun k v hv => ?_).toB
  rw [List.getElem?_map] at hv
  cases hz : zs[k]? with
  | none => rw [hz] at hv; simp at hv
  | some z => rw [hz] at hv; simp at hv; subst hv; exact h k z hz
theorem RdC.own {base n cap size : Nat} {T : TypeId} (h : w.ownsRow base T size (.slice A n cap) n cs) : RdC w A cs := by
  intro k v hv
  rcases h.2 with ⟨_, h0⟩ | ⟨g, cap', cur, hs, _, hg, _, _, _, ht⟩
  · have := h.1
    have hk := (List.getElem?_eq_some_iff.1 hv).1
    subst h0; simp at this; subst this; simp at hk
  · injection hs with e1 e2 e3
    subst e1
    refine ⟨g, 0, rfl, ?_⟩
    have := h.cells (g := g) rfl k v hv
    rwa [add_plain] at this
end

/-- The law's own argument: a slice of bytes. -/
theorem isRow_rd {w : World} {a : Option Addr} {len cap : Nat} {zs : List Int} (h : (a = none ∧ len = 0 ∧ cap = 0 ∧ zs = []) ∨
      ∃ x, a = some x ∧ len ≤ cap ∧ cap ≤ maxLen ∧ zs.length = cap ∧ (∀ i, i < zs.length → w.cell? (x.add i) = some (.int .u8 (zs.getD i 0))) ∧ ∀ n ∈ zs, (Lit.int .u8 n).wf = true) :
    RdB w a (zs.take len) ∧ Byte (zs.take len) ∧ (zs.take len).length = len ∧ len ≤ cap ∧ cap ≤ 9223372036854775807 ∧ (a = none → cap = 0) := by
  rcases h with ⟨rfl, rfl, rfl, rfl⟩ | ⟨x, rfl, hl, hm, hz, hcell, hwz⟩
  · exact ⟨fun k z h => by simp at h, fun z h => by simp at h, rfl, Nat.le_refl _, by omega, fun _ => rfl⟩
  · unfold maxLen at hm
    refine ⟨?_, ?_, by rw [List.length_take]; omega, hl, by omega, fun h => by cases h⟩
    · intro k z hk
      rw [List.getElem?_take] at hk
      split at hk
      · have hk' := (List.getElem?_eq_some_iff.1 hk).1
        have hc := hcell k hk'
        have hg : zs.getD k 0 = z := by simp [List.getD, hk]
        rw [hg] at hc
        have h0 := hcell 0 (by omega)
        obtain ⟨b, off, spot⟩ := x
        have hspot : spot = none := by simpa [Addr.add] using World.cell?_spot h0
        subst hspot
        rw [add_plain] at hc
        exact ⟨b, off, rfl, hc⟩
      · cases hk
    · intro z hz
      have := bounds_u8 (hwz z (List.mem_of_mem_take hz))
      omega

/-! ### Blocks of bytes of the call's own -/
def cellsB (zs : List Int) : Array Value := (zs.map (Value.int .u8)).toArray
theorem cellsB_at {zs : List Int} (k : Nat) (z : Int) (h : zs[k]? = some z) : (cellsB zs)[k]? = some (Value.int .u8 z) := by
  simp [cellsB, h]
def OwnB (W : World) (g : Nat) (zs : List Int) : Prop := W.heap[g]? = some (.cells (cellsB zs) 5 (0, 0))
section
variable {W W' : World} {g : Nat} {zs : List Int}
theorem OwnB.lt (h : OwnB W g zs) : g < W.heap.size := by
  rcases Nat.lt_or_ge g W.heap.size with hlt | hge
  · exact hlt
  · unfold OwnB at h; rw [Array.getElem?_eq_none hge] at h; cases h
theorem OwnB.at_ (h : OwnB W g zs) (k : Nat) (z : Int) (hz : zs[k]? = some z) : W.cell? ⟨g, k, none⟩ = some (.int .u8 z) := by
  unfold OwnB at h; simp [World.cell?, h, cellsB_at k z hz]
theorem OwnB.rd (h : OwnB W g zs) : RdB W (some ⟨g, 0, none⟩) zs := fun k z hz => ⟨_, _, rfl, by rw [Nat.zero_add]; exact h.at_ k z hz⟩
theorem OwnB.frozen (h : OwnB W g zs) (k : Nat) : W.frozen? ⟨g, k, none⟩ = false := by
  unfold OwnB at h; simp [World.frozen?, h]
theorem OwnB.set (h : OwnB W g zs) (k : Nat) (v : Int) : OwnB (W.setCell ⟨g, k, none⟩ (.int .u8 v)) g (zs.set k v) := by
  unfold OwnB at h ⊢
  simp [World.setCell, Array.getElem?_modify, h, cellsB, List.map_set]
theorem OwnB.below (h : OwnB W g zs) (hb : Below W.heap.size W W') : OwnB W' g zs := (hb.block g h.lt).trans h
end
theorem OwnB.new (w : World) (zs : List Int) : OwnB (w.alloc (.cells (cellsB zs) 5)) w.heap.size zs := heap_alloc_new w _
theorem byte_info : (Try.prog.info? 5).map (fun i => (i.zero, i.size, i.bytes)) = some (some (.int .u8 0), 1, 1) := by kernel_rfl
theorem run_make_bytes (n : Nat) (h : n ≤ 70000) (w : World) :
    (Instr.makeSlice 24 (.int .i64 (n : Int)) (.int .i64 (n : Int))).run Try.prog w = .ok (.slice (some ⟨w.heap.size, 0, none⟩) n n) (w.alloc (.cells (cellsB (List.replicate n 0)) 5)) := by
  obtain ⟨i, hi, hz, h1, h2⟩ := info_parts byte_info
  have hb : (i.bytes : Int) * (n : Int) ≤ 281474976710656 := by rw [h2]; omega
  have hr := run_make (P := Try.prog) w 24 5 i _ Try.underlying24 hi hz .i64 .i64 n n (by omega) (by omega) hb (by omega)
  simp only [Int.toNat_natCast] at hr
  rw [hr]
  have e : madeCells (Value.int IntKind.u8 0).cells (n * i.size) = cellsB (List.replicate n 0) := by
    rw [h1, Nat.mul_one]
    apply Array.toList_inj.1
    have : (Value.int IntKind.u8 0).cells = #[.int .u8 0] := rfl
    rw [this, toList_madeCells_one]
    simp [cellsB]
  rw [e]

/-! ### Texts out of bytes, bytes out of texts -/
theorem run_string_rd (W : World) (A : Option Addr) (n c : Nat) (zs : List Int) (hl : zs.length = n) (h : RdB W A zs) :
    (convert 24 9 (.slice A n c)).run Try.prog W = .ok (.string (strOfNums zs)) W := by
  cases A with
  | none =>
    have := h.none_; subst this
    have := run_convert_bytes_nil (P := Try.prog) W 24 5 Try.underlying24 Try.underlying5 n c 9 Try.underlying9
    rw [this]; rfl
  | some a =>
    by_cases h0 : zs = []
    · subst h0
      simp at hl; subst hl
      rw [run_convert_bytes_string W 24 9 5 _ 0 c Try.underlying24 Try.underlying5 Try.underlying9]
      simp [Conv.bytesToString, loadCells]; rfl
    · obtain ⟨b, off, e, hc⟩ := h.addr (List.length_pos_iff.2 h0)
      injection e with e
      subst e
      exact run_convert_bytes_arg (P := Try.prog) W 24 5 Try.underlying24 Try.underlying5 b off n c zs hl (fun i hi => hc i (by omega)) 9 Try.underlying9
/-- The conversion of a text that is known, in a world that is known. -/
structure Bytes (w : World) (s : ByteArray) (cap : Nat) (W : World) : Prop where
  run : (convert 9 24 (.string s)).run Try.prog w = .ok (.slice (some ⟨w.heap.size, 0, none⟩) s.size cap) W
  le : s.size ≤ cap
  max : cap ≤ 9223372036854775807
  rd : RdB W (some ⟨w.heap.size, 0, none⟩) (byt s)
  below : Below w.heap.size w W
theorem bytes_of (s : ByteArray) (hs : s.size ≤ 1000000000) (w : World) : ∃ cap W, Bytes w s cap W := by
  refine ⟨_, _, Lib.run_convert_string_bytes (P := Try.prog) w 9 24 5 s Try.underlying9 Try.underlying24 Try.underlying5, grownCap_ge w _ _ _, ?_, ?_, ?_⟩
  · have := grownCap_le_maxLen w s.size 0 5 (by unfold maxLen; omega)
    unfold maxLen at this; omega
  · intro k z hz
    refine ⟨_, _, rfl, ?_⟩
    rw [Nat.zero_add]
    have hk : k < s.size := by have := (List.getElem?_eq_some_iff.1 hz).1; rwa [byt_len] at this
    rw [Lib.bytesWorld_cell w 5 s k hk]
    rw [byt_at s k hk] at hz
    injection hz with hz
    rw [← hz]
    have : s.data.toList.getD k 0 = s[k] := by
      simp [List.getD, hk]; rfl
    rw [this]
  · exact ⟨rfl, rfl, rfl, by rw [Lib.bytesWorld_size]; omega, fun k hk => Lib.bytesWorld_at_old w 5 s k hk⟩

/-! ### Appends -/
/-- An append whose run is known. -/
theorem wpList_append_known {P : Program} {w : World} {ops : Array Oper} {rest : List Oper} {o : Oper} {a : Act} {Q : Exit → Act → World → Prop} (hgd : o.guard = none) (s x : Operand) (t : TypeId)
    (ho : o.op = .call { callee := .builtin .append, args := #[s, x], argTypes := #[t, t] }) (v1 v2 v' : Value) (w' : World) (hs : a.eval s = v1) (hx : a.eval x = v2)
    (hrun : (Builtin.append_ #[t, t] o.type #[v1, v2]).run P w = .ok v' w') (h : wpList P ops Q rest (a.put o.dst v') w') : wpList P ops Q (o :: rest) a w :=
  wpList_plain hgd fun _ hK => by
    unfold Oper.wp execOp
    simp only [ho, resolve, invoke, builtin, Sem.run_bind, Sem.run_pure, Result.andThen_ok, List.map_toArray, List.map_cons, List.map_nil, hs, hx, hrun]
    exact hK _ _ h

/-- A row of our own, whatever its element type (e: its number; t: the slice's), and cells that are read put behind it. -/
theorem run_append_rows {t e : TypeId} {z : Value} {size bytes : Nat} (ht : Try.prog.underlying t = some (.slice e)) (hinfo : (Try.prog.info? e).map (fun i => (i.zero, i.size, i.bytes)) = some (some z, size, bytes))
    (hzs : z.cells.size = size) (hsz : 0 < size) (hby : bytes ≤ 1000) (w : World) (base : Nat) (v : Value) (n : Nat) (xs : List Value) (hown : w.ownsRow base e size v n xs) (hbase : base ≤ w.heap.size)
    (A : Option Addr) (m c : Nat) (ys : List Value) (hm : ys.length = m * size) (hr : RdC w A ys) (h1 : ∀ u ∈ ys, u.oneCell' = true) (hnm : n + m ≤ 1000000000) :
    ∃ v' w', (Builtin.append_ #[t, t] t #[v, .slice A m c]).run Try.prog w = .ok v' w' ∧ w'.ownsRow base e size v' (n + m) (xs ++ ys) ∧ w.grownBy w' v.ownBlock ∧
      (v'.ownBlock = v.ownBlock ∨ v'.ownBlock = some w.heap.size) := by
  obtain ⟨i, hi, hz, h2, h3⟩ := info_parts hinfo
  cases A with
  | none =>
    have h0 := hr.none_
    subst h0
    obtain rfl : m = 0 := by
      rcases Nat.eq_zero_or_pos m with h | h
      · exact h
      · have := Nat.mul_pos h hsz; simp at hm; omega
    refine ⟨v, w, ?_, by simpa using hown, World.grownBy.refl w _, .inl rfl⟩
    rcases hown.2 with ⟨rfl, rfl⟩ | ⟨g, cap, cur, rfl, _, _, hnc, _⟩
    · simp [Builtin.append_, run_underlying ht, sizeOf, typeInfo, hi, Builtin.lenOf, Builtin.firstCells]
    · simp [Builtin.append_, run_underlying ht, sizeOf, typeInfo, hi, Builtin.lenOf, Builtin.firstCells, hnc, storeCells]
  | some ad =>
    have hbb : (n + m) * bytes ≤ 140737488355328 := by
      have := Nat.mul_le_mul hnm hby
      omega
    obtain ⟨v', w', hrun, ho, hg, _, hv⟩ := run_append_own_at (P := Try.prog) w base t t e i _ size bytes ht hi hz h2 h3 hzs hsz v n _ hown ad m c ys hm (by
      intro j u hu
      obtain ⟨b, off, e, hc⟩ := hr j u hu
      injection e with e
      subst e
      rw [add_plain]
      exact hc) h1 (by unfold maxLen; omega) hbb hbase
    exact ⟨v', w', hrun, ho, hg, hv⟩

theorem own_nil (w : World) (base size : Nat) (e : TypeId) : w.ownsRow base e size (.slice none 0 0) 0 [] := ⟨by simp, .inl ⟨rfl, rfl⟩⟩
theorem own_form {w : World} {base n size : Nat} {e : TypeId} {v : Value} {xs : List Value} (h : w.ownsRow base e size v n xs) : ∃ A cap, v = .slice A n cap ∧ n ≤ cap ∧ cap ≤ 9223372036854775807 ∧ (A = none → cap = 0) := by
  rcases h.2 with ⟨rfl, rfl⟩ | ⟨g, cap, cur, rfl, _, _, hnc, hm, _⟩
  · exact ⟨_, _, rfl, Nat.le_refl _, by omega, fun _ => rfl⟩
  · exact ⟨_, _, rfl, hnc, by unfold maxLen at hm; omega, fun h => by cases h⟩
theorem own_base {w : World} {base n size : Nat} {e : TypeId} {v : Value} {xs : List Value} (h : w.ownsRow base e size v n xs) : ∀ k, v.ownBlock = some k → base ≤ k := by
  intro k hk
  rcases h.2 with ⟨rfl, rfl⟩ | ⟨g, cap, cur, rfl, hb, _⟩
  · cases hk
  · simp [Value.ownBlock] at hk; omega
theorem own_alloc {w : World} {base n size : Nat} {e : TypeId} {v : Value} {xs : List Value} (h : w.ownsRow base e size v n xs) (o : Obj) : (w.alloc o).ownsRow base e size v n xs := by
  refine ⟨h.1, ?_⟩
  rcases h.2 with h0 | ⟨g, cap, cur, hv, hb, hg, hr⟩
  · exact .inl h0
  · have hlt : g < w.heap.size := by
      rcases Nat.lt_or_ge g w.heap.size with hlt | hge
      · exact hlt
      · rw [Array.getElem?_eq_none hge] at hg; cases hg
    exact .inr ⟨g, cap, cur, hv, hb, (Below.heap_alloc w o g hlt).trans hg, hr⟩
theorem own_lt {w : World} {base n size : Nat} {e : TypeId} {v : Value} {xs : List Value} (h : w.ownsRow base e size v n xs) : ∀ k, v.ownBlock = some k → k < w.heap.size := by
  intro k hk
  rcases h.2 with ⟨rfl, rfl⟩ | ⟨g, cap, cur, rfl, hb, hg, _⟩
  · cases hk
  · simp [Value.ownBlock] at hk
    subst hk
    rcases Nat.lt_or_ge g w.heap.size with hlt | hge
    · exact hlt
    · rw [Array.getElem?_eq_none hge] at hg; cases hg
theorem own_below {w w' : World} {base n size : Nat} {e : TypeId} {v : Value} {xs : List Value} (h : w.ownsRow base e size v n xs) (hb : Below w.heap.size w w') : w'.ownsRow base e size v n xs := by
  refine ⟨h.1, ?_⟩
  rcases h.2 with h0 | ⟨g, cap, cur, rfl, hbs, hg, hr⟩
  · exact .inl h0
  · have hlt := own_lt h g rfl
    exact .inr ⟨g, cap, cur, rfl, hbs, (hb.block g hlt).trans hg, hr⟩
theorem own_setCell {w : World} {base n size : Nat} {e : TypeId} {v : Value} {xs : List Value} (h : w.ownsRow base e size v n xs) (p : Addr) (u : Value) (hp : ∀ k, v.ownBlock = some k → k ≠ p.block) : (w.setCell p u).ownsRow base e size v n xs := by
  refine ⟨h.1, ?_⟩
  rcases h.2 with h0 | ⟨g, cap, cur, rfl, hbs, hg, hr⟩
  · exact .inl h0
  · exact .inr ⟨g, cap, cur, rfl, hbs, (Below.heap_setCell w p u g (hp g rfl)).trans hg, hr⟩
theorem run_append_bytes (w : World) (base : Nat) (v : Value) (n : Nat) (zs : List Int) (hown : w.ownsRow base 5 1 v n (zs.map (Value.int .u8))) (hbase : base ≤ w.heap.size)
    (A : Option Addr) (m c : Nat) (ys : List Int) (hm : ys.length = m) (hr : RdB w A ys) (hsz : n + m ≤ 1000000000) :
    ∃ v' w', (Builtin.append_ #[24, 24] 24 #[v, .slice A m c]).run Try.prog w = .ok v' w' ∧ w'.ownsRow base 5 1 v' (n + m) ((zs ++ ys).map (Value.int .u8)) ∧ w.grownBy w' v.ownBlock ∧
      (v'.ownBlock = v.ownBlock ∨ v'.ownBlock = some w.heap.size) := by
  rw [List.map_append]
  exact run_append_rows Try.underlying24 byte_info rfl (by omega) (by omega) w base v n _ hown hbase A m c (ys.map (Value.int .u8)) (by simp [hm]) hr.toC (by intro u hu; simp at hu; obtain ⟨y, _, rfl⟩ := hu; rfl) hsz
/-- The call answers a list of bytes, zs, in memory of its own. -/
def NewB (w : World) (zs : List Int) (e : Ending) (w' : World) : Prop :=
  ∃ A n cap, e = .returned (.slice A n cap) ∧ zs.length = n ∧ n ≤ cap ∧ cap ≤ 9223372036854775807 ∧ (A = none → cap = 0) ∧ RdB w' A zs ∧ Below w.heap.size w w'
end Go.Proofs.Ytjdmbldbbohdbaa
