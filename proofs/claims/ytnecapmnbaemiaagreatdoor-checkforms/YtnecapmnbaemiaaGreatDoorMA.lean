/- What every stage needs of memory: bytes that an address leads to, rows of cells, texts, appends, conversions. No function of the program. · Chapter 1 (runes, printable runes, names) as Lean functions on lists of numbers, and what they come to. No program. · The contracts of package chars' plain calls: lead, surrogate, Space, Digit, Printable, nameByte, Rune. · The contracts of package bytes' plain calls (Equal, HasPrefix); constants as bytes in memory. · The contracts of the document's answers for runes: Printable, Rune. · Texts of runes that are all printable, without breaks (and tabs, or not): the plain function; the document's answers 'clean' and 'in'; strings.IndexByte. · Names: the contracts of chars.Name and of the document's Letter and Name. · The blanks at a list's beginning, as a Lean function. No program. · chars.Check, and the document's: which bytes are a text. · bytes.IndexByte, whatever the byte. · The contracts of package scholiumkeep's plain helps: Within, Text, Copy and Cut of bytes, Lend, Intact. · An append whose run is known, as a step of a region that draws. · Single bytes put behind bytes of our own: 'append(out, c)', '[]byte{c}'. · The document's answer 'clean': is a text runes that are all printable, without breaks (and tabs, or not)? · A region that draws its order, whose loads come ahead of a store (the gate): what is held of memory need be held up to the gate alone. · A region that draws its order: operations of which each one keeps what is held, in whatever order they come up (the entries of a map's literal). -/
import Derived.Test.YtnecapmnbaemiaaGreatDoorRows
import Derived.WalkKit
import Derived.WalkSpells
import Derived.WalkLawsBesides
import Derived.Lib.Hide
import Derived.Lib.Strings
import Derived.Laws.MakeOwn
import Derived.Laws.OwnMore
import Derived.Laws.BytesArg
import Derived.Lib.ConvBytes
import Derived.Maps.AppendAt
import Derived.Laws.CopyRow
import Derived.Laws.CopyOwn
import Derived.Deep.QuietTactic
import Derived.BigQuiet
import Derived.ProofKit
import Derived.Lib.SlBytesConst
import Derived.OpenShut
import Derived.Laws.BitsLemmas
import Derived.Lib.BytesEntry
import Derived.Deep.RegionHeld3
import Derived.Deep.AppendLies
import Derived.OrdersHeld
set_option linter.unusedSimpArgs false
set_option linter.unusedVariables false
namespace Go.Proofs.YtnecapmnbaemiaaGreatDoor
open Go.RowKit
set_option linter.unusedVariables false
set_option maxRecDepth 100000
theorem ret_bool {a b : Bool} (h : a = b) : Ending.returned (.bool a) = .returned (.bool b) := by rw [h]
theorem ret_int {k : IntKind} {a b : Int} (h : a = b) : Ending.returned (.int k a) = .returned (.int k b) := by rw [h]
theorem ret_str {a b : ByteArray} (h : a = b) : Ending.returned (.string a) = .returned (.string b) := by rw [h]
theorem bool_iff {a b : Bool} (h : a = true ↔ b = true) : a = b := by rwa [Bool.eq_iff_iff]
theorem getD_at {zs : List Int} {k : Nat} (h : k < zs.length) : zs[k]? = some (zs.getD k 0) := by
  rw [List.getElem?_eq_getElem h]; simp [List.getD, h]
theorem add_plain (b off k : Nat) : (⟨b, off, none⟩ : Addr).add k = ⟨b, off + k, none⟩ := by unfold Addr.add; split <;> simp_all
theorem below_draws {B : Nat} {a w : World} (h : Below B a w) (n : Nat) : Below B a (w.drewN n) := ⟨h.os, h.tape, h.output, h.size, h.block⟩
theorem below_step {a b c : World} (h : Below a.heap.size a b) (k : Below b.heap.size b c) : Below a.heap.size a c := h.trans (k.mono h.size)
def byt (s : ByteArray) : List Int := s.data.toList.map fun c => (c.toNat : Int)
def Byte (zs : List Int) : Prop := ∀ z ∈ zs, 0 ≤ z ∧ z < 256
theorem byt_len (s : ByteArray) : (byt s).length = s.size := by simp [byt]
theorem byt_at (s : ByteArray) (k : Nat) (h : k < s.size) : (byt s)[k]? = some (s[k].toNat : Int) := by
  simp [byt]; exact ⟨s[k], by rw [Array.getElem?_eq_getElem (by simpa using h)]; rfl, rfl⟩
theorem byt_byte (s : ByteArray) : Byte (byt s) := by
  intro z hz; simp [byt] at hz; obtain ⟨c, _, rfl⟩ := hz; have := c.toNat_lt; omega
theorem byt_append (s t : ByteArray) : byt (s ++ t) = byt s ++ byt t := by simp [byt]
theorem byt_extract (s : ByteArray) (a b : Nat) : byt (s.extract a b) = ((byt s).drop a).take (b - a) := by
  unfold byt; rw [Lib.extract_data, List.map_take, List.map_drop]
theorem byt_inj {s t : ByteArray} (h : byt s = byt t) : s = t := by
  unfold byt at h
  have hi : ∀ a b : UInt8, ((fun c : UInt8 => (c.toNat : Int)) a = (fun c : UInt8 => (c.toNat : Int)) b) → a = b := by
    intro a b hab
    have : a.toNat = b.toNat := Int.ofNat.inj hab
    exact UInt8.toNat_inj.1 this
  have := (List.map_inj_right hi).1 h
  exact ByteArray.ext (Array.toList_inj.1 this)
theorem byt_strOfNums (zs : List Int) (h : Byte zs) : byt (strOfNums zs) = zs := by
  unfold byt
  rw [strOfNums_data, List.map_map]
  have : ∀ z ∈ zs, ((fun c : UInt8 => (c.toNat : Int)) ∘ fun n : Int => UInt8.ofNat n.toNat) z = z := by
    intro z hz
    have := h z hz
    simp only [Function.comp]
    rw [UInt8.toNat_ofNat']
    omega
  rw [List.map_congr_left this]
  simp
theorem strOfNums_byt (s : ByteArray) : strOfNums (byt s) = s := byt_inj (byt_strOfNums _ (byt_byte s))
theorem strOfNums_inj {zs ys : List Int} (hz : Byte zs) (hy : Byte ys) (h : strOfNums zs = strOfNums ys) : zs = ys := by
  rw [← byt_strOfNums zs hz, h, byt_strOfNums ys hy]
theorem Byte.drop {zs : List Int} (h : Byte zs) (m : Nat) : Byte (zs.drop m) := fun z hz => h z (List.mem_of_mem_drop hz)
theorem Byte.take {zs : List Int} (h : Byte zs) (m : Nat) : Byte (zs.take m) := fun z hz => h z (List.mem_of_mem_take hz)
theorem Byte.append {zs ys : List Int} (h : Byte zs) (k : Byte ys) : Byte (zs ++ ys) := fun z hz => by
  rcases List.mem_append.1 hz with h1 | h1
  · exact h z h1
  · exact k z h1
theorem Byte.at_ {zs : List Int} (h : Byte zs) {k : Nat} (hk : k < zs.length) : 0 ≤ zs.getD k 0 ∧ zs.getD k 0 < 256 := h _ (List.mem_of_getElem? (getD_at hk))
def RdC (w : World) (A : Option Addr) (cs : List Value) : Prop := ∀ k v, cs[k]? = some v → ∃ b off, A = some ⟨b, off, none⟩ ∧ w.cell? ⟨b, off + k, none⟩ = some v
def RdB (w : World) (A : Option Addr) (zs : List Int) : Prop := ∀ k z, zs[k]? = some z → ∃ b off, A = some ⟨b, off, none⟩ ∧ w.cell? ⟨b, off + k, none⟩ = some (.int .u8 z)
section
variable {w w' : World} {A : Option Addr} {cs : List Value} {zs : List Int}
theorem RdB.toC (h : RdB w A zs) : RdC w A (zs.map (Value.int .u8)) := by
  intro k v hv
  rw [List.getElem?_map] at hv
  cases hz : zs[k]? with
  | none => rw [hz] at hv; simp at hv
  | some z => rw [hz] at hv; simp at hv; subst hv; exact h k z hz
theorem RdC.toB (h : RdC w A (zs.map (Value.int .u8))) : RdB w A zs := fun k z hz => h k _ (by simp [hz])
theorem RdC.addr (h : RdC w A cs) (hl : 0 < cs.length) : ∃ b off, A = some ⟨b, off, none⟩ ∧ ∀ k v, cs[k]? = some v → w.cell? ⟨b, off + k, none⟩ = some v := by
  cases cs with
  | nil => simp at hl
  | cons c t =>
    obtain ⟨b, off, rfl, _⟩ := h 0 c rfl
    refine ⟨b, off, rfl, fun k v hv => ?_⟩
    obtain ⟨b', off', e, hc⟩ := h k v hv
    injection e with e
    injection e with e1 e2
    subst e1 e2
    exact hc
theorem RdB.addr (h : RdB w A zs) (hl : 0 < zs.length) : ∃ b off, A = some ⟨b, off, none⟩ ∧ ∀ k, k < zs.length → w.cell? ⟨b, off + k, none⟩ = some (.int .u8 (zs.getD k 0)) := by
  obtain ⟨b, off, e, hc⟩ := h.toC.addr (by simpa using hl)
  exact ⟨b, off, e, fun k hk => hc k _ (by rw [List.getElem?_map, getD_at hk]; rfl)⟩
theorem RdC.none_ (h : RdC w none cs) : cs = [] := by
  cases cs with
  | nil => rfl
  | cons c t => obtain ⟨b, off, e, _⟩ := h 0 c rfl; cases e
theorem RdB.none_ (h : RdB w none zs) : zs = [] := by simpa using h.toC.none_
theorem RdC.nil (w : World) (A : Option Addr) : RdC w A [] := fun k v h => by simp at h
theorem RdB.nil (w : World) (A : Option Addr) : RdB w A [] := fun k v h => by simp at h
theorem RdC.below (h : RdC w A cs) (hb : Below w.heap.size w w') : RdC w' A cs := by
  intro k v hv
  obtain ⟨b, off, e, hc⟩ := h k v hv
  exact ⟨b, off, e, by rw [hb.cell (p := ⟨b, off + k, none⟩) (World.block_lt_of_cell? _ _ hc)]; exact hc⟩
theorem RdB.below (h : RdB w A zs) (hb : Below w.heap.size w w') : RdB w' A zs := (h.toC.below hb).toB
theorem RdC.cast (h : RdC w A cs) (hc : ∀ b o v, w.cell? ⟨b, o, none⟩ = some v → w'.cell? ⟨b, o, none⟩ = some v) : RdC w' A cs := by
  intro k v hv
  obtain ⟨b, off, e, h1⟩ := h k v hv
  exact ⟨b, off, e, hc _ _ _ h1⟩
theorem RdB.cast (h : RdB w A zs) (hc : ∀ b o v, w.cell? ⟨b, o, none⟩ = some v → w'.cell? ⟨b, o, none⟩ = some v) : RdB w' A zs := (h.toC.cast hc).toB
theorem RdC.drop {b off : Nat} (h : RdC w (some ⟨b, off, none⟩) cs) (m : Nat) : RdC w (some ⟨b, off + m, none⟩) (cs.drop m) := by
  intro k v hv
  rw [List.getElem?_drop] at hv
  obtain ⟨b', off', e, hc⟩ := h _ v hv
  injection e with e
  injection e with e1 e2
  subst e1 e2
  exact ⟨b, off + m, rfl, by rw [Nat.add_assoc]; exact hc⟩
theorem RdB.drop {b off : Nat} (h : RdB w (some ⟨b, off, none⟩) zs) (m : Nat) : RdB w (some ⟨b, off + m, none⟩) (zs.drop m) := by
  have := h.toC.drop m
  rw [← List.map_drop] at this
  exact this.toB
theorem RdC.take (h : RdC w A cs) (m : Nat) : RdC w A (cs.take m) := by
  intro k v hv
  rw [List.getElem?_take] at hv
  split at hv
  · exact h k v hv
  · cases hv
theorem RdB.take (h : RdB w A zs) (m : Nat) : RdB w A (zs.take m) := by
  have := h.toC.take m
  rw [← List.map_take] at this
  exact this.toB
theorem RdC.new {C : Array Value} {T : TypeId} {fz : Nat × Nat} {g : Nat} (hg : g = w.heap.size) (h : ∀ (k : Nat) (v : Value), cs[k]? = some v → C[k]? = some v) : RdC (w.alloc (.cells C T fz)) (some ⟨g, 0, none⟩) cs := by
  subst hg
  intro k v hv
  refine ⟨_, _, rfl, ?_⟩
  rw [Nat.zero_add, World.cell?_alloc_mark]
  exact h k v hv
theorem RdB.new {C : Array Value} {T : TypeId} {fz : Nat × Nat} {g : Nat} (hg : g = w.heap.size) (h : ∀ (k : Nat) (z : Int), zs[k]? = some z → C[k]? = some (Value.int .u8 z)) : RdB (w.alloc (.cells C T fz)) (some ⟨g, 0, none⟩) zs := by
  refine (RdC.new hg fun k v hv => ?_).toB
  rw [List.getElem?_map] at hv
  cases hz : zs[k]? with
  | none => rw [hz] at hv; simp at hv
  | some z => rw [hz] at hv; simp at hv; subst hv; exact h k z hz
theorem RdC.own {base n cap size : Nat} {T : TypeId} (h : w.ownsRow base T size (.slice A n cap) n cs) : RdC w A cs := by
  intro k v hv
  rcases h.2 with ⟨_, h0⟩ | ⟨g, cap', cur, hs, _, hg, _, _, _, ht⟩
  · have := h.1
    have hk := (List.getElem?_eq_some_iff.1 hv).1
    subst h0; simp at this; subst this; simp at hk
  · injection hs with e1 e2 e3
    subst e1
    refine ⟨g, 0, rfl, ?_⟩
    have := h.cells (g := g) rfl k v hv
    rwa [add_plain] at this
end
def cellsB (zs : List Int) : Array Value := (zs.map (Value.int .u8)).toArray
theorem cellsB_at {zs : List Int} (k : Nat) (z : Int) (h : zs[k]? = some z) : (cellsB zs)[k]? = some (Value.int .u8 z) := by
  simp [cellsB, h]
def OwnB (W : World) (g : Nat) (zs : List Int) : Prop := W.heap[g]? = some (.cells (cellsB zs) 5 (0, 0))
section
variable {W W' : World} {g : Nat} {zs : List Int}
theorem OwnB.lt (h : OwnB W g zs) : g < W.heap.size := by
  rcases Nat.lt_or_ge g W.heap.size with hlt | hge
  · exact hlt
  · unfold OwnB at h; rw [Array.getElem?_eq_none hge] at h; cases h
theorem OwnB.at_ (h : OwnB W g zs) (k : Nat) (z : Int) (hz : zs[k]? = some z) : W.cell? ⟨g, k, none⟩ = some (.int .u8 z) := by
  unfold OwnB at h; simp [World.cell?, h, cellsB_at k z hz]
theorem OwnB.rd (h : OwnB W g zs) : RdB W (some ⟨g, 0, none⟩) zs := fun k z hz => ⟨_, _, rfl, by rw [Nat.zero_add]; exact h.at_ k z hz⟩
theorem OwnB.frozen (h : OwnB W g zs) (k : Nat) : W.frozen? ⟨g, k, none⟩ = false := by
  unfold OwnB at h; simp [World.frozen?, h]
theorem OwnB.set (h : OwnB W g zs) (k : Nat) (v : Int) : OwnB (W.setCell ⟨g, k, none⟩ (.int .u8 v)) g (zs.set k v) := by
  unfold OwnB at h ⊢
  simp [World.setCell, Array.getElem?_modify, h, cellsB, List.map_set]
theorem OwnB.below (h : OwnB W g zs) (hb : Below W.heap.size W W') : OwnB W' g zs := (hb.block g h.lt).trans h
end
theorem OwnB.new (w : World) (zs : List Int) : OwnB (w.alloc (.cells (cellsB zs) 5)) w.heap.size zs := heap_alloc_new w _
theorem byte_info : (Tryz.prog.info? 5).map (fun i => (i.zero, i.size, i.bytes)) = some (some (.int .u8 0), 1, 1) := by kernel_rfl
theorem run_string_rd (W : World) (A : Option Addr) (n c : Nat) (zs : List Int) (hl : zs.length = n) (h : RdB W A zs) :
    (convert 35 9 (.slice A n c)).run Tryz.prog W = .ok (.string (strOfNums zs)) W := by
  cases A with
  | none =>
    have := h.none_; subst this
    have := run_convert_bytes_nil (P := Tryz.prog) W 35 5 Tryz.underlying35 Tryz.underlying5 n c 9 Tryz.underlying9
    rw [this]; rfl
  | some a =>
    by_cases h0 : zs = []
    · subst h0
      simp at hl; subst hl
      rw [run_convert_bytes_string W 35 9 5 _ 0 c Tryz.underlying35 Tryz.underlying5 Tryz.underlying9]
      simp [Conv.bytesToString, loadCells]; rfl
    · obtain ⟨b, off, e, hc⟩ := h.addr (List.length_pos_iff.2 h0)
      injection e with e
      subst e
      exact run_convert_bytes_arg (P := Tryz.prog) W 35 5 Tryz.underlying35 Tryz.underlying5 b off n c zs hl (fun i hi => hc i (by omega)) 9 Tryz.underlying9
/-- The conversion of a text that is known, in a world that is known. -/
structure Bytes (w : World) (s : ByteArray) (cap : Nat) (W : World) : Prop where
  run : (convert 9 35 (.string s)).run Tryz.prog w = .ok (.slice (some ⟨w.heap.size, 0, none⟩) s.size cap) W
  le : s.size ≤ cap
  max : cap ≤ 9223372036854775807
  rd : RdB W (some ⟨w.heap.size, 0, none⟩) (byt s)
  below : Below w.heap.size w W
theorem bytes_of (s : ByteArray) (hs : s.size ≤ 1000000000) (w : World) : ∃ cap W, Bytes w s cap W := by
  refine ⟨_, _, Lib.run_convert_string_bytes (P := Tryz.prog) w 9 35 5 s Tryz.underlying9 Tryz.underlying35 Tryz.underlying5, grownCap_ge w _ _ _, ?_, ?_, ?_⟩
  · have := grownCap_le_maxLen w s.size 0 5 (by unfold maxLen; omega)
    unfold maxLen at this; omega
  · intro k z hz
    refine ⟨_, _, rfl, ?_⟩
    rw [Nat.zero_add]
    have hk : k < s.size := by have := (List.getElem?_eq_some_iff.1 hz).1; rwa [byt_len] at this
    rw [Lib.bytesWorld_cell w 5 s k hk]
    rw [byt_at s k hk] at hz
    injection hz with hz
    rw [← hz]
    have : s.data.toList.getD k 0 = s[k] := by
      simp [List.getD, hk]; rfl
    rw [this]
  · exact ⟨rfl, rfl, rfl, by rw [Lib.bytesWorld_size]; omega, fun k hk => Lib.bytesWorld_at_old w 5 s k hk⟩
/-- An append whose run is known. -/
theorem wpList_append_known {P : Program} {w : World} {ops : Array Oper} {rest : List Oper} {o : Oper} {a : Act} {Q : Exit → Act → World → Prop} (hgd : o.guard = none) (s x : Operand) (t : TypeId)
    (ho : o.op = .call { callee := .builtin .append, args := #[s, x], argTypes := #[t, t] }) (v1 v2 v' : Value) (w' : World) (hs : a.eval s = v1) (hx : a.eval x = v2)
    (hrun : (Builtin.append_ #[t, t] o.type #[v1, v2]).run P w = .ok v' w') (h : wpList P ops Q rest (a.put o.dst v') w') : wpList P ops Q (o :: rest) a w :=
  wpList_plain hgd fun _ hK => by
    unfold Oper.wp execOp
    simp only [ho, resolve, invoke, builtin, Sem.run_bind, Sem.run_pure, Result.andThen_ok, List.map_toArray, List.map_cons, List.map_nil, hs, hx, hrun]
    exact hK _ _ h
/-- A row of our own, whatever its element type (e: its number; t: the slice's), and cells that are read put behind it. -/
theorem run_append_rows {t e : TypeId} {z : Value} {size bytes : Nat} (ht : Tryz.prog.underlying t = some (.slice e)) (hinfo : (Tryz.prog.info? e).map (fun i => (i.zero, i.size, i.bytes)) = some (some z, size, bytes))
    (hzs : z.cells.size = size) (hsz : 0 < size) (hby : bytes ≤ 1000) (w : World) (base : Nat) (v : Value) (n : Nat) (xs : List Value) (hown : w.ownsRow base e size v n xs) (hbase : base ≤ w.heap.size)
    (A : Option Addr) (m c : Nat) (ys : List Value) (hm : ys.length = m * size) (hr : RdC w A ys) (h1 : ∀ u ∈ ys, u.oneCell' = true) (hnm : n + m ≤ 1000000000) :
    ∃ v' w', (Builtin.append_ #[t, t] t #[v, .slice A m c]).run Tryz.prog w = .ok v' w' ∧ w'.ownsRow base e size v' (n + m) (xs ++ ys) ∧ w.grownBy w' v.ownBlock ∧
      (v'.ownBlock = v.ownBlock ∨ v'.ownBlock = some w.heap.size) := by
  obtain ⟨i, hi, hz, h2, h3⟩ := info_parts hinfo
  cases A with
  | none =>
    have h0 := hr.none_
    subst h0
    obtain rfl : m = 0 := by
      rcases Nat.eq_zero_or_pos m with h | h
      · exact h
      · have := Nat.mul_pos h hsz; simp at hm; omega
    refine ⟨v, w, ?_, by simpa using hown, World.grownBy.refl w _, .inl rfl⟩
    rcases hown.2 with ⟨rfl, rfl⟩ | ⟨g, cap, cur, rfl, _, _, hnc, _⟩
    · simp [Builtin.append_, run_underlying ht, sizeOf, typeInfo, hi, Builtin.lenOf, Builtin.firstCells]
    · simp [Builtin.append_, run_underlying ht, sizeOf, typeInfo, hi, Builtin.lenOf, Builtin.firstCells, hnc, storeCells]
  | some ad =>
    have hbb : (n + m) * bytes ≤ 140737488355328 := by
      have := Nat.mul_le_mul hnm hby
      omega
    obtain ⟨v', w', hrun, ho, hg, _, hv⟩ := run_append_own_at (P := Tryz.prog) w base t t e i _ size bytes ht hi hz h2 h3 hzs hsz v n _ hown ad m c ys hm (by
      intro j u hu
      obtain ⟨b, off, e, hc⟩ := hr j u hu
      injection e with e
      subst e
      rw [add_plain]
      exact hc) h1 (by unfold maxLen; omega) hbb hbase
    exact ⟨v', w', hrun, ho, hg, hv⟩
theorem own_nil (w : World) (base size : Nat) (e : TypeId) : w.ownsRow base e size (.slice none 0 0) 0 [] := ⟨by simp, .inl ⟨rfl, rfl⟩⟩
theorem own_form {w : World} {base n size : Nat} {e : TypeId} {v : Value} {xs : List Value} (h : w.ownsRow base e size v n xs) : ∃ A cap, v = .slice A n cap ∧ n ≤ cap ∧ cap ≤ 9223372036854775807 ∧ (A = none → cap = 0) := by
  rcases h.2 with ⟨rfl, rfl⟩ | ⟨g, cap, cur, rfl, _, _, hnc, hm, _⟩
  · exact ⟨_, _, rfl, Nat.le_refl _, by omega, fun _ => rfl⟩
  · exact ⟨_, _, rfl, hnc, by unfold maxLen at hm; omega, fun h => by cases h⟩
theorem own_base {w : World} {base n size : Nat} {e : TypeId} {v : Value} {xs : List Value} (h : w.ownsRow base e size v n xs) : ∀ k, v.ownBlock = some k → base ≤ k := by
  intro k hk
  rcases h.2 with ⟨rfl, rfl⟩ | ⟨g, cap, cur, rfl, hb, _⟩
  · cases hk
  · simp [Value.ownBlock] at hk; omega
theorem own_alloc {w : World} {base n size : Nat} {e : TypeId} {v : Value} {xs : List Value} (h : w.ownsRow base e size v n xs) (o : Obj) : (w.alloc o).ownsRow base e size v n xs := by
  refine ⟨h.1, ?_⟩
  rcases h.2 with h0 | ⟨g, cap, cur, hv, hb, hg, hr⟩
  · exact .inl h0
  · have hlt : g < w.heap.size := by
      rcases Nat.lt_or_ge g w.heap.size with hlt | hge
      · exact hlt
      · rw [Array.getElem?_eq_none hge] at hg; cases hg
    exact .inr ⟨g, cap, cur, hv, hb, (Below.heap_alloc w o g hlt).trans hg, hr⟩
theorem own_lt {w : World} {base n size : Nat} {e : TypeId} {v : Value} {xs : List Value} (h : w.ownsRow base e size v n xs) : ∀ k, v.ownBlock = some k → k < w.heap.size := by
  intro k hk
  rcases h.2 with ⟨rfl, rfl⟩ | ⟨g, cap, cur, rfl, hb, hg, _⟩
  · cases hk
  · simp [Value.ownBlock] at hk
    subst hk
    rcases Nat.lt_or_ge g w.heap.size with hlt | hge
    · exact hlt
    · rw [Array.getElem?_eq_none hge] at hg; cases hg
theorem own_below {w w' : World} {base n size : Nat} {e : TypeId} {v : Value} {xs : List Value} (h : w.ownsRow base e size v n xs) (hb : Below w.heap.size w w') : w'.ownsRow base e size v n xs := by
  refine ⟨h.1, ?_⟩
  rcases h.2 with h0 | ⟨g, cap, cur, rfl, hbs, hg, hr⟩
  · exact .inl h0
  · have hlt := own_lt h g rfl
    exact .inr ⟨g, cap, cur, rfl, hbs, (hb.block g hlt).trans hg, hr⟩
theorem own_setCell {w : World} {base n size : Nat} {e : TypeId} {v : Value} {xs : List Value} (h : w.ownsRow base e size v n xs) (p : Addr) (u : Value) (hp : ∀ k, v.ownBlock = some k → k ≠ p.block) : (w.setCell p u).ownsRow base e size v n xs := by
  refine ⟨h.1, ?_⟩
  rcases h.2 with h0 | ⟨g, cap, cur, rfl, hbs, hg, hr⟩
  · exact .inl h0
  · exact .inr ⟨g, cap, cur, rfl, hbs, (Below.heap_setCell w p u g (hp g rfl)).trans hg, hr⟩
theorem run_append_bytes (w : World) (base : Nat) (v : Value) (n : Nat) (zs : List Int) (hown : w.ownsRow base 5 1 v n (zs.map (Value.int .u8))) (hbase : base ≤ w.heap.size)
    (A : Option Addr) (m c : Nat) (ys : List Int) (hm : ys.length = m) (hr : RdB w A ys) (hsz : n + m ≤ 1000000000) :
    ∃ v' w', (Builtin.append_ #[35, 35] 35 #[v, .slice A m c]).run Tryz.prog w = .ok v' w' ∧ w'.ownsRow base 5 1 v' (n + m) ((zs ++ ys).map (Value.int .u8)) ∧ w.grownBy w' v.ownBlock ∧
      (v'.ownBlock = v.ownBlock ∨ v'.ownBlock = some w.heap.size) := by
  rw [List.map_append]
  exact run_append_rows Tryz.underlying35 byte_info rfl (by omega) (by omega) w base v n _ hown hbase A m c (ys.map (Value.int .u8)) (by simp [hm]) hr.toC (by intro u hu; simp at hu; obtain ⟨y, _, rfl⟩ := hu; rfl) hsz
def surr (r : Int) : Bool := decide (55296 ≤ r) && decide (r ≤ 57343)
def prt (r : Int) : Bool :=
  if r = 9 ∨ r = 10 ∨ r = 13 ∨ r = 133 then true else
  if r < 32 ∨ (127 ≤ r ∧ r ≤ 159) then false else
  if r = 65279 ∨ r = 65534 ∨ r = 65535 then false else
  decide (r ≤ 1114111) && !surr r
def spc (c : Int) : Bool := c == 32
def dgt (c : Int) : Bool := decide (48 ≤ c) && decide (c ≤ 57)
def nmb (c : Int) : Bool := (decide (65 ≤ c) && decide (c ≤ 90)) || (decide (97 ≤ c) && decide (c ≤ 122)) || dgt c || c == 45 || c == 95
def ldR (c : Int) : Int := if c < 128 then c else if c < 192 then 0 else if c < 224 then c - 192 else if c < 240 then c - 224 else if c < 248 then c - 240 else 0
def ldN (c : Int) : Int := if c < 128 then 1 else if c < 192 then 0 else if c < 224 then 2 else if c < 240 then 3 else if c < 248 then 4 else 0
def ldL (c : Int) : Int := if c < 128 then 0 else if c < 192 then 0 else if c < 224 then 128 else if c < 240 then 2048 else if c < 248 then 65536 else 0
def cont (c : Int) : Bool := decide (128 ≤ c) && decide (c < 192)
theorem and_all : ∀ c : Fin 256,
    (bits .and .u8 (c.val : Int) 128 == 0) = decide ((c.val : Int) < 128) ∧
    (bits .and .u8 (c.val : Int) 224 == 192) = (decide (192 ≤ (c.val : Int)) && decide ((c.val : Int) < 224)) ∧
    (bits .and .u8 (c.val : Int) 240 == 224) = (decide (224 ≤ (c.val : Int)) && decide ((c.val : Int) < 240)) ∧
    (bits .and .u8 (c.val : Int) 248 == 240) = (decide (240 ≤ (c.val : Int)) && decide ((c.val : Int) < 248)) ∧
    (bits .and .u8 (c.val : Int) 192 == 128) = (decide (128 ≤ (c.val : Int)) && decide ((c.val : Int) < 192)) := by decide +kernel
theorem and_at (c : Int) (h0 : 0 ≤ c) (h1 : c < 256) :
    (bits .and .u8 c 128 == 0) = decide (c < 128) ∧
    (bits .and .u8 c 224 == 192) = (decide (192 ≤ c) && decide (c < 224)) ∧
    (bits .and .u8 c 240 == 224) = (decide (224 ≤ c) && decide (c < 240)) ∧
    (bits .and .u8 c 248 == 240) = (decide (240 ≤ c) && decide (c < 248)) ∧
    (bits .and .u8 c 192 == 128) = (decide (128 ≤ c) && decide (c < 192)) := by
  have h := and_all ⟨c.toNat, by omega⟩
  have e : ((c.toNat : Nat) : Int) = c := by omega
  simpa only [e] using h
theorem and_cont (c : Int) (h0 : 0 ≤ c) (h1 : c < 256) : (bits .and .u8 c 192 == 128) = cont c := (and_at c h0 h1).2.2.2.2
/-- The rest of a rune, byte by byte. -/
def accR : Int → List Int → Option Int
  | r, [] => some r
  | r, c :: l => if cont c then accR (r * 64 + c % 64) l else none
def runeF : List Int → Int × Int × Bool
  | [] => (0, 0, false)
  | c :: t =>
    if ldN c = 0 ∨ ((c :: t).length : Int) < ldN c then (0, 1, false) else
    match accR (ldR c) (t.take (ldN c - 1).toNat) with
    | none => (0, 1, false)
    | some r => if r < ldL c ∨ 1114111 < r ∨ surr r = true then (0, 1, false) else (r, ldN c, true)
theorem accR_snoc (l : List Int) (c : Int) : ∀ r, accR r (l ++ [c]) = match accR r l with | none => none | some q => if cont c then some (q * 64 + c % 64) else none := by
  induction l with
  | nil => intro r; simp only [List.nil_append, accR]
  | cons a l ih => intro r; simp only [List.cons_append, accR]; split <;> simp [ih]
theorem accR_none (l m : List Int) : ∀ r, accR r l = none → accR r (l ++ m) = none := by
  induction l with
  | nil => intro r h; simp [accR] at h
  | cons a l ih => intro r h; simp only [List.cons_append, accR] at h ⊢; split <;> simp_all
theorem accR_bd (l : List Int) : ∀ r q, 0 ≤ r → accR r l = some q → 0 ≤ q ∧ q < (r + 1) * 64 ^ l.length := by
  induction l with
  | nil => intro r q h0 h; simp only [accR, Option.some.injEq] at h; subst h; simp; omega
  | cons a l ih =>
    intro r q h0 h
    simp only [accR] at h
    split at h
    · obtain ⟨h1, h2⟩ := ih _ _ (by omega) h
      refine ⟨h1, ?_⟩
      have e : (r * 64 + a % 64 + 1) * 64 ^ l.length ≤ ((r + 1) * 64) * 64 ^ l.length := Int.mul_le_mul_of_nonneg_right (by omega) (Int.pow_nonneg (by omega))
      have e2 : (r + 1) * 64 ^ (a :: l).length = ((r + 1) * 64) * 64 ^ l.length := by rw [List.length_cons, Int.pow_succ']; rw [Int.mul_assoc]
      omega
    · cases h
theorem ldN_cases (c : Int) : ldN c = 0 ∨ ldN c = 1 ∨ ldN c = 2 ∨ ldN c = 3 ∨ ldN c = 4 := by unfold ldN; split <;> (try split) <;> (try split) <;> (try split) <;> (try split) <;> simp
theorem ldR_bd (c : Int) (h0 : 0 ≤ c) : 0 ≤ ldR c ∧ ldR c < 128 ∧ (ldN c = 2 → ldR c < 32) ∧ (ldN c = 3 → ldR c < 16) ∧ (ldN c = 4 → ldR c < 8) := by
  unfold ldR ldN; split <;> (try split) <;> (try split) <;> (try split) <;> (try split) <;> omega
/-- While bytes are still to come the rune has room for them. -/
theorem acc_room (c : Int) (h0 : 0 ≤ c) (l : List Int) (q : Int) (h : accR (ldR c) l = some q) (hl : (l.length : Int) + 1 < ldN c) : 0 ≤ q ∧ q < 32768 := by
  obtain ⟨h1, h2⟩ := accR_bd l _ _ (ldR_bd c h0).1 h
  have hb := ldR_bd c h0
  refine ⟨h1, ?_⟩
  rcases ldN_cases c with e | e | e | e | e <;> rw [e] at hl
  · omega
  · omega
  · have : l.length = 0 := by omega
    rw [this] at h2; simp at h2; omega
  · have : l.length = 0 ∨ l.length = 1 := by omega
    rcases this with k | k <;> rw [k] at h2 <;> simp at h2 <;> omega
  · have : l.length = 0 ∨ l.length = 1 ∨ l.length = 2 := by omega
    rcases this with k | k | k <;> rw [k] at h2 <;> simp at h2 <;> omega
theorem acc_bd (c : Int) (h0 : 0 ≤ c) (l : List Int) (q : Int) (h : accR (ldR c) l = some q) (hl : (l.length : Int) < ldN c) : 0 ≤ q ∧ q < 2097152 := by
  obtain ⟨h1, h2⟩ := accR_bd l _ _ (ldR_bd c h0).1 h
  have hb := ldR_bd c h0
  refine ⟨h1, ?_⟩
  rcases ldN_cases c with e | e | e | e | e <;> rw [e] at hl
  · omega
  · have : l.length = 0 := by omega
    rw [this] at h2; simp at h2; omega
  · have : l.length = 0 ∨ l.length = 1 := by omega
    rcases this with k | k <;> rw [k] at h2 <;> simp at h2 <;> omega
  · have : l.length = 0 ∨ l.length = 1 ∨ l.length = 2 := by omega
    rcases this with k | k | k <;> rw [k] at h2 <;> simp at h2 <;> omega
  · have : l.length = 0 ∨ l.length = 1 ∨ l.length = 2 ∨ l.length = 3 := by omega
    rcases this with k | k | k | k <;> rw [k] at h2 <;> simp at h2 <;> omega
set_option maxHeartbeats 400000 in
theorem lead_any (c : Int) (h0 : 0 ≤ c) (h1 : c < 256) (w : World) :
    Calls Tryz.prog 37 #[.int .u8 c] w fun e w' => e = .returned (.tuple #[.int .i32 (ldR c), .int .i64 (ldN c), .int .i32 (ldL c)]) ∧ w = w' := by
  have H := Lib.hid (and_at c h0 h1)
  go_enter Tryz.func37, Tryz.ntmps37
  go_wp2
  all_goals
    go_ret3
    refine ⟨?_, rfl⟩
    obtain ⟨e1, e2, e3, e4, _⟩ := H.out
    simp only [e1, e2, e3, e4] at *
    unfold ldR ldN ldL
    simp at *
    repeat' split
    all_goals (first | omega | (simp; omega) | simp)
set_option maxHeartbeats 400000 in
theorem surr_any (r : Int) (w : World) :
    Calls Tryz.prog 38 #[.int .i32 r] w fun e w' => e = .returned (.bool (surr r)) ∧ w = w' := by
  unfold surr
  go_enter Tryz.func38, Tryz.ntmps38
  go_wp2
  all_goals (go_ret; refine ⟨ret_bool ?_, rfl⟩; simp_all; try omega)
set_option maxHeartbeats 400000 in
theorem digit_any (c : Int) (w : World) :
    Calls Tryz.prog 92 #[.int .u8 c] w fun e w' => e = .returned (.bool (dgt c)) ∧ w = w' := by
  unfold dgt
  go_enter Tryz.func92, Tryz.ntmps92
  go_wp2
  all_goals (go_ret; refine ⟨ret_bool ?_, rfl⟩; simp_all; try omega)
set_option maxHeartbeats 400000 in
theorem space_any (c : Int) (w : World) :
    Calls Tryz.prog 47 #[.int .u8 c] w fun e w' => e = .returned (.bool (spc c)) ∧ w = w' := by
  unfold spc
  go_enter Tryz.func47, Tryz.ntmps47
  go_wp2
  all_goals (go_ret; exact ⟨rfl, rfl⟩)
set_option maxHeartbeats 400000 in
theorem prt_any (r : Int) (w : World) :
    Calls Tryz.prog 28 #[.int .i32 r] w fun e w' => e = .returned (.bool (prt r)) ∧ w = w' := by
  go_enter Tryz.func28, Tryz.ntmps28
  go_wp2_with (go_at_call 38; refine (surr_any _ _).mono ?_; rintro e w' ⟨rfl, rfl⟩)
  all_goals
    go_ret
    refine ⟨ret_bool ?_, rfl⟩
    simp only [prt]
    simp at *
    repeat' split
    all_goals (first | rfl | omega | (simp_all; done) | (simp_all; omega))
set_option maxHeartbeats 400000 in
theorem nameByte_any (c : Int) (w : World) :
    Calls Tryz.prog 72 #[.int .u8 c] w fun e w' => e = .returned (.bool (nmb c)) ∧ w = w' := by
  go_enter Tryz.func72, Tryz.ntmps72
  go_wp2_with (go_at_call 92; refine (digit_any _ _).mono ?_; rintro e w' ⟨rfl, rfl⟩)
  all_goals
    go_ret
    refine ⟨ret_bool (bool_iff ?_), rfl⟩
    simp only [nmb]
    simp_all
    try omega
theorem RdB.cons {w : World} {A : Option Addr} {c : Int} {t : List Int} (h : RdB w A (c :: t)) :
    ∃ b off, A = some ⟨b, off, none⟩ ∧ ∀ k z, (c :: t)[k]? = some z → w.cell? ⟨b, off + k, none⟩ = some (.int .u8 z) := by
  obtain ⟨b, off, rfl, _⟩ := h 0 c rfl
  refine ⟨b, off, rfl, fun k z hz => ?_⟩
  obtain ⟨b', off', e, hc⟩ := h k z hz
  injection e with e
  injection e with e1 e2
  subst e1 e2
  exact hc
theorem runeF_short (c : Int) (t : List Int) (h : ldN c = 0 ∨ ((c :: t).length : Int) < ldN c) : runeF (c :: t) = (0, 1, false) := by
  simp only [runeF]; rw [if_pos h]
theorem runeF_none (c : Int) (t : List Int) (h1 : 1 ≤ ldN c) (h2 : ldN c ≤ ((c :: t).length : Int)) (h : accR (ldR c) (t.take (ldN c - 1).toNat) = none) : runeF (c :: t) = (0, 1, false) := by
  simp only [runeF]; rw [if_neg (by omega), h]
theorem runeF_bad (c : Int) (t : List Int) (h1 : 1 ≤ ldN c) (h2 : ldN c ≤ ((c :: t).length : Int)) (r : Int) (h : accR (ldR c) (t.take (ldN c - 1).toNat) = some r) (hb : r < ldL c ∨ 1114111 < r ∨ surr r = true) : runeF (c :: t) = (0, 1, false) := by
  simp only [runeF]; rw [if_neg (by omega), h]; simp only []; rw [if_pos hb]
theorem runeF_good (c : Int) (t : List Int) (h1 : 1 ≤ ldN c) (h2 : ldN c ≤ ((c :: t).length : Int)) (r : Int) (h : accR (ldR c) (t.take (ldN c - 1).toNat) = some r) (hb : ¬ (r < ldL c ∨ 1114111 < r ∨ surr r = true)) : runeF (c :: t) = (r, ldN c, true) := by
  simp only [runeF]; rw [if_neg (by omega), h]; simp only []; rw [if_neg hb]
def retRune (p : Int × Int × Bool) : Ending := .returned (.tuple #[.int .i32 p.1, .int .i64 p.2.1, .bool p.2.2])
theorem acc_step (c0 : Int) (h0 : 0 ≤ c0) (t : List Int) (k : Nat) (z R : Int) (hz : t[k]? = some z) (hR : accR (ldR c0) (t.take k) = some R) :
    accR (ldR c0) (t.take (k + 1)) = if cont z then some (R * 64 + z % 64) else none := by
  rw [List.take_add_one, hz]
  simp only [Option.toList_some, accR_snoc, hR]
theorem acc_stop (c0 : Int) (t : List Int) (k m : Nat) (hk : k ≤ m) (h : accR (ldR c0) (t.take k) = none) : accR (ldR c0) (t.take m) = none := by
  have e : t.take m = t.take k ++ (t.drop k).take (m - k) := by
    rw [show m = k + (m - k) by omega, List.take_add]; simp
  rw [e]; exact accR_none _ _ _ h
theorem runeF_n (zs : List Int) (h : zs ≠ []) : 1 ≤ (runeF zs).2.1 ∧ (runeF zs).2.1 ≤ zs.length ∧ (runeF zs).2.1 ≤ 4 := by
  cases zs with
  | nil => exact absurd rfl h
  | cons c t =>
    have h4 : ldN c ≤ 4 := by rcases ldN_cases c with e | e | e | e | e <;> omega
    have h0 : ldN c ≠ 0 → 1 ≤ ldN c := by rcases ldN_cases c with e | e | e | e | e <;> omega
    simp only [runeF]
    split
    · simp; omega
    · rename_i hs
      split
      · simp; omega
      · split
        · simp; omega
        · refine ⟨?_, ?_, ?_⟩ <;> simp only [] <;> omega
set_option maxHeartbeats 1000000 in
theorem rune_short (b off : Nat) (c : Int) (n cap : Nat) (w : World) (h0 : 0 ≤ c) (h1 : c < 256) (hn : 1 ≤ n) (hnc : n ≤ cap) (hm : cap ≤ 9223372036854775807) (hN : ldN c = 0 ∨ (n : Int) < ldN c) (hc : w.cell? ⟨b, off, none⟩ = some (.int .u8 c)) :
    Calls Tryz.prog 27 #[.slice (some ⟨b, off, none⟩) n cap] w fun e w' => e = retRune (0, 1, false) ∧ w = w' := by
  have d : (0 : Int) < (n : Int) := by omega
  have d0 : ((n : Int) == 0) = false := beq_eq_false_iff_ne.2 (by omega)
  by_cases hz : ldN c = 0
  · have e0 : (ldN c == 0) = true := beq_iff_eq.2 hz
    clear hN hz
    go_enter Tryz.func27, Tryz.ntmps27
    go_wp2_with (go_at_call 37; refine (lead_any _ (by omega) (by omega) _).mono ?_; rintro e w' ⟨rfl, rfl⟩)
    go_ret3
    exact ⟨rfl, rfl⟩
  · have e0 : (ldN c == 0) = false := beq_eq_false_iff_ne.2 hz
    have e1 : (n : Int) < ldN c := by omega
    clear hN hz
    go_enter Tryz.func27, Tryz.ntmps27
    go_wp2_with (go_at_call 37; refine (lead_any _ (by omega) (by omega) _).mono ?_; rintro e w' ⟨rfl, rfl⟩)
    go_ret3
    exact ⟨rfl, rfl⟩
set_option maxHeartbeats 1000000 in
theorem rune_long (b off : Nat) (c : Int) (t : List Int) (n cap : Nat) (w : World) (h0 : 0 ≤ c) (h1 : c < 256) (hb : Byte t) (hn : n = t.length + 1) (hnc : n ≤ cap) (hcap : 2 ≤ cap) (hm : cap ≤ 9223372036854775807)
    (hN1 : 1 ≤ ldN c) (hN2 : ldN c ≤ (n : Int)) (hc : ∀ k z, (c :: t)[k]? = some z → w.cell? ⟨b, off + k, none⟩ = some (.int .u8 z)) :
    Calls Tryz.prog 27 #[.slice (some ⟨b, off, none⟩) n cap] w fun e w' => e = retRune (runeF (c :: t)) ∧ w = w' := by
  obtain ⟨m, hm0⟩ : ∃ m : Nat, ldN c = (m : Int) + 1 := ⟨(ldN c - 1).toNat, by omega⟩
  have hlen : ((c :: t).length : Int) = n := by simp; omega
  have hN2' : ldN c ≤ ((c :: t).length : Int) := by omega
  have htk : (ldN c - 1).toNat = m := by omega
  have rn := runeF_none c t hN1 hN2'
  have rb := runeF_bad c t hN1 hN2'
  have rg := runeF_good c t hN1 hN2'
  rw [htk] at rn rb rg
  have RN := Lib.hid rn
  have RB := Lib.hid rb
  have RG := Lib.hid rg
  have HC := Lib.hid hc
  have HM := Lib.hid hm0
  have hmt : m ≤ t.length := by omega
  have hcell : w.cell? ⟨b, off, none⟩ = some (.int .u8 c) := hc 0 c rfl
  have d : (0 : Int) < (n : Int) := by omega
  have d0 : ((n : Int) == 0) = false := beq_eq_false_iff_ne.2 (by omega)
  have e0 : (ldN c == 0) = false := beq_eq_false_iff_ne.2 (by omega)
  have e1 : decide ((n : Int) < ldN c) = false := decide_eq_false (by omega)
  have hlb := (ldR_bd c h0).1
  have hlb2 := (ldR_bd c h0).2.1
  have hl4 : ldN c ≤ 4 := by rcases ldN_cases c with e | e | e | e | e <;> omega
  have htoN : (ldN c).toNat - 1 = m := by omega
  have HT := Lib.hid htoN
  have hn1 : t.length + 1 ≤ n := by omega
  have hn2 : n ≤ t.length + 1 := by omega
  have HB := Lib.hid hb
  clear rn rb rg hc hm0 hlen htk hn hb
  go_enter Tryz.func27, Tryz.ntmps27
  go_wp2_with (go_at_call 37; refine (lead_any _ (by omega) (by omega) _).mono ?_; rintro e w' ⟨rfl, rfl⟩)
  clear htoN
  go_loop [2, 3, 31] (fun r nn i => ∃ (k : Nat) (R : Int), k ≤ m ∧ i = .int .i64 k ∧ r = .int .i32 R ∧ nn = .int .i64 (ldN c) ∧ Hid (accR (ldR c) (t.take k) = some R)) (fun _ _ i => m - (intOf i).toNat)
  case atStart => exact ⟨0, ldR c, Nat.zero_le _, rfl, rfl, rfl, rfl⟩
  case round =>
    obtain ⟨k, R, hk, rfl, rfl, rfl, HA⟩ := hrel
    by_cases hlt : k < m
    · obtain ⟨z, hz⟩ : ∃ z, t[k]? = some z := ⟨t[k]'(by omega), List.getElem?_eq_getElem (by omega)⟩
      have hzb := HB.out z (List.mem_of_getElem? hz)
      have hzb1 := hzb.1
      have hzb2 := hzb.2
      have hcz : w.cell? ⟨b, off + 1 + k, none⟩ = some (.int .u8 z) := by rw [Nat.add_assoc, Nat.add_comm 1 k]; exact HC.out (k + 1) z hz
      have hroom := acc_room c h0 (t.take k) R HA.out (by have := HM.out; rw [List.length_take]; omega)
      have hr1 := hroom.1
      have hr2 := hroom.2
      have hst := acc_step c h0 t k z R hz HA.out
      cases hct : cont z
      · have hbz : (bits .and .u8 z 192 != 128) = true := by have := and_cont z hzb1 hzb2; rw [hct] at this; simp only [bne, this]; rfl
        have hrf : runeF (c :: t) = (0, 1, false) := RN.out (acc_stop c t (k + 1) m hlt (by rw [hst, hct]; rfl))
        have HRF := Lib.hid hrf
        clear hrf hst hct hroom hzb hz
        go_wp2
        go_ret3
        exact ⟨by rw [HRF.out]; rfl, rfl⟩
      · have hbz : (bits .and .u8 z 192 != 128) = false := by have := and_cont z hzb1 hzb2; rw [hct] at this; simp only [bne, this]; rfl
        have hac : accR (ldR c) (t.take (k + 1)) = some (R * 64 + z % 64) := by rw [hst, hct]; rfl
        have HAC := Lib.hid hac
        clear hac hst hct hroom hzb hz
        go_wp2
        go_round
        case rel => exact ⟨k + 1, _, by omega, by go_num, rfl, rfl, HAC⟩
        case measure => simp [intOf]; omega
    · obtain rfl : m = k := by omega
      have hq := acc_bd c h0 (t.take m) R HA.out (by have := HM.out; rw [List.length_take]; omega)
      have hq1 := hq.1
      have hq2 := hq.2
      clear hq
      go_wp2_with (go_at_call 38; refine (surr_any _ _).mono ?_; rintro e w' ⟨rfl, rfl⟩)
      · go_ret3
        have hrf := RB.out R HA.out (by rename_i h; rcases h with (h | h) | h; exact .inl h; exact .inr (.inl h); exact .inr (.inr h))
        exact ⟨by rw [hrf]; rfl, rfl⟩
      · go_ret3
        have hrf := RG.out R HA.out (by rename_i h; simp only [h.2]; simp; exact h.1)
        exact ⟨by rw [hrf]; rfl, rfl⟩
      · go_ret3
        exact ⟨by rw [RB.out R HA.out (by omega)]; rfl, rfl⟩
      · go_ret3
        exact ⟨by rw [RB.out R HA.out (by omega)]; rfl, rfl⟩
set_option maxHeartbeats 1000000 in
theorem rune_one (b off : Nat) (c : Int) (w : World) (h0 : 0 ≤ c) (h1 : c < 128) (hc : w.cell? ⟨b, off, none⟩ = some (.int .u8 c)) :
    Calls Tryz.prog 27 #[.slice (some ⟨b, off, none⟩) 1 1] w fun e w' => e = retRune (c, 1, true) ∧ w = w' := by
  have hN : ldN c = 1 := by unfold ldN; rw [if_pos h1]
  have hR : ldR c = c := by unfold ldR; rw [if_pos h1]
  have hL : ldL c = 0 := by unfold ldL; rw [if_pos h1]
  have hs : surr c = false := by unfold surr; rw [decide_eq_false (by omega)]; rfl
  go_enter Tryz.func27, Tryz.ntmps27
  go_wp2_with (go_at_call 37; refine (lead_any _ (by omega) (by omega) _).mono ?_; rintro e w' ⟨rfl, rfl⟩)
  go_loop [2, 3, 31] (fun r nn i => i = .int .i64 0 ∧ nn = .int .i64 1 ∧ r = .int .i32 c) (fun _ _ _ => 0)
  case atStart => exact ⟨rfl, rfl, rfl⟩
  case round =>
    obtain ⟨rfl, rfl, rfl⟩ := hrel
    go_wp2_with (go_at_call 38; refine (surr_any _ _).mono ?_; rintro e w' ⟨rfl, rfl⟩)
    go_ret3
    exact ⟨rfl, rfl⟩
set_option maxHeartbeats 1000000 in
theorem rune_nil (A : Option Addr) (cap : Nat) (w : World) :
    Calls Tryz.prog 27 #[.slice A 0 cap] w fun e w' => e = retRune (0, 0, false) ∧ w = w' := by
  go_enter Tryz.func27, Tryz.ntmps27
  go_wp2
  go_ret3
  exact ⟨rfl, rfl⟩
theorem rune_any (A : Option Addr) (n cap : Nat) (zs : List Int) (w : World) (hl : zs.length = n) (hnc : n ≤ cap) (hm : cap ≤ 9223372036854775807) (hb : Byte zs) (hr : RdB w A zs) :
    Calls Tryz.prog 27 #[.slice A n cap] w fun e w' => e = retRune (runeF zs) ∧ w = w' := by
  cases zs with
  | nil =>
    simp at hl; subst hl
    exact rune_nil A cap w
  | cons c t =>
    obtain ⟨b, off, rfl, hc⟩ := hr.cons
    have hcb := hb c (by simp)
    have hbt : Byte t := fun z hz => hb z (by simp [hz])
    have hlen : ((c :: t).length : Int) = n := by omega
    have h0 : w.cell? ⟨b, off, none⟩ = some (.int .u8 c) := hc 0 c rfl
    have hn : n = t.length + 1 := by simpa using hl.symm
    by_cases hs : ldN c = 0 ∨ (n : Int) < ldN c
    · rw [runeF_short c t (by rw [hlen]; exact hs)]
      exact rune_short b off c n cap w hcb.1 hcb.2 (by omega) hnc hm hs h0
    · have h1 : 1 ≤ ldN c := by rcases ldN_cases c with e | e | e | e | e <;> omega
      by_cases hcap : 2 ≤ cap
      · exact rune_long b off c t n cap w hcb.1 hcb.2 hbt hn hnc hcap hm h1 (by omega) hc
      · have : t = [] := List.eq_nil_of_length_eq_zero (by omega)
        subst this
        obtain rfl : n = 1 := by simpa using hn
        obtain rfl : cap = 1 := by omega
        have hN : ldN c = 1 := by omega
        have hc128 : c < 128 := by
          unfold ldN at hN; split at hN
          · assumption
          · repeat' (split at hN)
            all_goals omega
        have hrf : runeF [c] = (c, 1, true) := by
          have := runeF_good c [] (by omega) (by simp; omega) c (by simp [accR, ldR, hc128]) (by
            have hL : ldL c = 0 := by unfold ldL; rw [if_pos hc128]
            have hs : surr c = false := by unfold surr; rw [decide_eq_false (by omega)]; rfl
            rw [hL, hs]; simp; omega)
          rw [this, hN]
        rw [hrf]
        exact rune_one b off c w hcb.1 hc128 h0
theorem rune_at (A : Option Addr) (n cap : Nat) (ys : List Int) (w : World) (r : Int) (j : Int) (ok : Bool) (hl : ys.length = n) (hnc : n ≤ cap) (hm : cap ≤ 9223372036854775807) (hb : Byte ys) (hr : RdB w A ys) (hf : runeF ys = (r, j, ok)) :
    Calls Tryz.prog 27 #[.slice A n cap] w fun e w' => e = .returned (.tuple #[.int .i32 r, .int .i64 j, .bool ok]) ∧ w = w' := by
  have := rune_any A n cap ys w hl hnc hm hb hr
  rw [hf] at this
  exact this
set_option maxHeartbeats 400000 in
theorem equal_any (A B : Option Addr) (n c m d : Nat) (zs ys : List Int) (w : World) (hl : zs.length = n) (hm : ys.length = m) (hr : RdB w A zs) (hs : RdB w B ys) (hbz : Byte zs) (hby : Byte ys) (v : Bool) (hv : (zs == ys) = v) :
    Calls Tryz.prog 30 #[.slice A n c, .slice B m d] w fun e w' => e = .returned (.bool v) ∧ w = w' := by
  have h1 := run_string_rd w A n c zs hl hr
  have h2 := run_string_rd w B m d ys hm hs
  have hv' : ((strOfNums zs).toList == (strOfNums ys).toList) = v := by
    rw [← hv]
    apply bool_iff
    simp only [beq_iff_eq, Lib.toList_data]
    exact ⟨fun h => strOfNums_inj hbz hby (ByteArray.ext (Array.toList_inj.1 h)), fun h => by rw [h]⟩
  have HV := Lib.hid hv'
  clear hv hv' hr hs hl hm hbz hby
  generalize strOfNums zs = s at *
  generalize strOfNums ys = t at *
  go_enter Tryz.func30, Tryz.ntmps30
  go_wp2
  go_ret
  exact ⟨ret_bool HV.out, rfl⟩
theorem three_at {x y z : Int} : ∀ (k : Nat) (u : Int), [x, y, z][k]? = some u → (#[Value.int .u8 x, .int .u8 y, .int .u8 z] : Array Value)[k]? = some (Value.int .u8 u) := by
  intro k u h
  match k with
  | 0 => simp at h; subst h; rfl
  | 1 => simp at h; subst h; rfl
  | 2 => simp at h; subst h; rfl
  | k + 3 => simp at h
set_option maxHeartbeats 400000 in
theorem hasPrefix_any (A B : Option Addr) (n c m d : Nat) (zs ys : List Int) (w : World) (hl : zs.length = n) (hy : ys.length = m) (h0 : 0 < m) (hnc : n ≤ c) (hm : c ≤ 9223372036854775807) (hr : RdB w A zs) (hs : RdB w B ys) (hbz : Byte zs) (hby : Byte ys) (v : Bool)
    (hv : (decide (m ≤ n) && zs.take m == ys) = v) :
    Calls Tryz.prog 19 #[.slice A n c, .slice B m d] w fun e w' => e = .returned (.bool v) ∧ w = w' := by
  by_cases h : m ≤ n
  · have d3 : (m : Int) ≤ (n : Int) := by omega
    obtain ⟨b, off, rfl, _⟩ := hr.addr (by omega)
    have e := equal_any (some ⟨b, off, none⟩) B m c m d (zs.take m) ys w (by rw [List.length_take]; omega) hy (hr.take m) hs (hbz.take m) hby v (by rw [← hv, decide_eq_true h]; rfl)
    have E := Lib.hid e
    clear e hv hr hs hbz hby hl hy
    go_enter Tryz.func19, Tryz.ntmps19
    go_wp2_with (go_at_call 30; refine E.out.mono ?_; rintro e w' ⟨rfl, rfl⟩)
    go_ret
    exact ⟨rfl, rfl⟩
  · have d3 : decide ((m : Int) ≤ (n : Int)) = false := decide_eq_false (by omega)
    rw [decide_eq_false h] at hv
    have hv : v = false := hv.symm
    subst hv
    clear hr hs hbz hby hl hy
    go_enter Tryz.func19, Tryz.ntmps19
    go_wp2
    go_ret
    exact ⟨rfl, rfl⟩
theorem slice_lh (A : Option Addr) (n c lo hi : Nat) (zs : List Int) (hl : zs.length = n) (hnc : n ≤ c) (hA : A = none → c = 0) (h1 : lo ≤ hi) (h2 : hi ≤ n) : ∃ A', 
    (∀ W, (Instr.slice 35 (.slice A n c) (some (.int .i64 (lo : Int))) (some (.int .i64 (hi : Int))) none).run Tryz.prog W = .ok (.slice A' (hi - lo) (c - lo)) W) ∧ (A' = none → c - lo = 0) ∧
    ∀ W, RdB W A zs → RdB W A' ((zs.drop lo).take (hi - lo)) := by
  obtain ⟨i, hi', hz, hs1, _⟩ := info_parts byte_info
  have hel : Tryz.prog.elem 35 = 5 := by kernel_rfl
  have hun : Tryz.prog.underlying 35 = some (.slice (Tryz.prog.elem 35)) := by rw [hel]; exact Tryz.underlying35
  have hrun : ∀ W, (Instr.slice 35 (.slice A n c) (some (.int .i64 (lo : Int))) (some (.int .i64 (hi : Int))) none).run Tryz.prog W = .ok (sliced A lo hi c 1) W := by
    intro W
    rw [run_slice_lh W 35 A n c hun .i64 .i64 _ _ (by omega) (by omega) (by omega), hel]
    simp [sizeOf, typeInfo, hi', hs1, sliced]
  cases A with
  | none =>
    obtain rfl : c = 0 := hA rfl
    refine ⟨none, fun W => by rw [hrun W]; simp [sliced], fun _ => by omega, fun W h => ?_⟩
    have := h.none_
    subst this; simp; exact RdB.nil _ _
  | some a =>
    by_cases h : c = lo
    · refine ⟨some a, fun W => by rw [hrun W]; simp [sliced, h], fun h' => (by cases h'), fun W hr => ?_⟩
      have : hi - lo = 0 := by omega
      rw [this]; simp; exact RdB.nil _ _
    · refine ⟨some (a.add lo), fun W => by rw [hrun W]; simp [sliced, h], fun h' => (by cases h'), fun W hr => ?_⟩
      by_cases h0 : zs = []
      · subst h0; simp; exact RdB.nil _ _
      · obtain ⟨b, off, e, _⟩ := hr.addr (List.length_pos_iff.2 h0)
        injection e with e; subst e
        rw [add_plain]
        exact (hr.drop lo).take _
theorem slice_l (A : Option Addr) (n c lo : Nat) (zs : List Int) (hl : zs.length = n) (hnc : n ≤ c) (hA : A = none → c = 0) (h1 : lo ≤ n) : ∃ A', 
    (∀ W, (Instr.slice 35 (.slice A n c) (some (.int .i64 (lo : Int))) none none).run Tryz.prog W = .ok (.slice A' (n - lo) (c - lo)) W) ∧ (A' = none → c - lo = 0) ∧
    ∀ W, RdB W A zs → RdB W A' (zs.drop lo) := by
  obtain ⟨A', hr, h2, h3⟩ := slice_lh A n c lo n zs hl hnc hA h1 (Nat.le_refl _)
  refine ⟨A', fun W => ?_, h2, fun W h => ?_⟩
  · have hel : Tryz.prog.elem 35 = 5 := by kernel_rfl
    have hun : Tryz.prog.underlying 35 = some (.slice (Tryz.prog.elem 35)) := by rw [hel]; exact Tryz.underlying35
    rw [← hr W, run_slice_lh W 35 A n c hun .i64 .i64 _ _ (by omega) (by omega) (by omega), run_slice_l W 35 A n c hun .i64 _ (by omega) (by omega)]
    simp
  · have := h3 W h
    rwa [List.take_of_length_le (by rw [List.length_drop]; omega)] at this
/-- The same, the place spelt as a number. -/
theorem slice_lI (A : Option Addr) (n c lo : Nat) (v : Int) (hv : v = (lo : Int)) (zs : List Int) (hl : zs.length = n) (hnc : n ≤ c) (hA : A = none → c = 0) (h1 : lo ≤ n) : ∃ A',
    (∀ W, (Instr.slice 35 (.slice A n c) (some (.int .i64 v)) none none).run Tryz.prog W = .ok (.slice A' (n - lo) (c - lo)) W) ∧ (A' = none → c - lo = 0) ∧
    ∀ W, RdB W A zs → RdB W A' (zs.drop lo) := by
  subst hv
  exact slice_l A n c lo zs hl hnc hA h1
/-- The beginning. -/
theorem slice_h (A : Option Addr) (n c hi : Nat) (h2 : hi ≤ n) (hnc : n ≤ c) (hA : A = none → c = 0) :
    ∀ W, (Instr.slice 35 (.slice A n c) none (some (.int .i64 (hi : Int))) none).run Tryz.prog W = .ok (.slice A hi c) W := by
  intro W
  obtain ⟨i, hi', hz, hs1, _⟩ := info_parts byte_info
  have hel : Tryz.prog.elem 35 = 5 := by kernel_rfl
  have hun : Tryz.prog.underlying 35 = some (.slice (Tryz.prog.elem 35)) := by rw [hel]; exact Tryz.underlying35
  rw [run_slice_h W 35 A n c hun .i64 _ (by omega) (by omega), hel]
  cases A with
  | none =>
    obtain rfl : c = 0 := hA rfl
    obtain rfl : hi = 0 := by omega
    simp [sizeOf, typeInfo, hi', hs1, sliced]
  | some a =>
    simp [sizeOf, typeInfo, hi', hs1, sliced]
    intro _
    unfold Addr.add
    split <;> simp_all
/-- Bytes as a text, held against a text. -/
theorem str_eq (zs : List Int) (hb : Byte zs) (s : ByteArray) : ((strOfNums zs).toList == s.toList) = (zs == byt s) := by
  apply bool_iff
  simp only [beq_iff_eq, Lib.toList_data]
  constructor
  · intro h
    rw [← ByteArray.ext (Array.toList_inj.1 h), byt_strOfNums zs hb]
  · intro h
    rw [h, strOfNums_byt]
theorem cell_keep {w w' : World} {p : Addr} {v : Value} (hb : Below w.heap.size w w') (h : w.cell? p = some v) : w'.cell? p = some v := by
  rw [hb.cell (World.block_lt_of_cell? _ _ h)]; exact h
def badL (tabs : Bool) (zs : List Int) : Bool := !(runeF zs).2.2 || !prt (runeF zs).1 || (runeF zs).1 == 10 || (runeF zs).1 == 13 || ((runeF zs).1 == 9 && !tabs)
def inF (tabs : Bool) : Nat → List Int → Bool
  | 0, _ => true
  | f + 1, zs => if zs = [] then true else if badL tabs zs = true then false else inF tabs f (zs.drop (runeF zs).2.1.toNat)
theorem contains_byt (s : ByteArray) (c : Int) (h0 : 0 ≤ c) (h1 : c < 256) : (byt s).contains c = s.data.toList.contains c.toNat.toUInt8 := by
  unfold byt
  apply bool_iff
  simp only [List.contains_iff_mem, List.mem_map]
  constructor
  · rintro ⟨u, hu, rfl⟩
    have : ((u.toNat : Int)).toNat.toUInt8 = u := by
      apply UInt8.toNat_inj.1
      simp
    rw [this]; exact hu
  · intro h
    refine ⟨_, h, ?_⟩
    have : (c.toNat.toUInt8).toNat = c.toNat := by simp; omega
    rw [this]; omega
theorem ix_mem : ∀ (l : List UInt8) (c : UInt8), 0 ≤ Lib.indexByte l c ↔ c ∈ l := by
  intro l c
  induction l with
  | nil => simp [Lib.indexByte]
  | cons b l ih =>
    have hg := Lib.indexByte_ge l c
    unfold Lib.indexByte
    by_cases hb : b = c
    · subst hb; simp
    · have e1 : (b == c) = false := beq_eq_false_iff_ne.2 hb
      have e2 : ¬ c = b := fun h => hb h.symm
      simp only [e1, List.mem_cons, e2, Bool.false_eq_true, if_false, false_or, ← ih]
      by_cases h : Lib.indexByte l c = -1
      · rw [h]; simp
      · have e3 : (Lib.indexByte l c == -1) = false := beq_eq_false_iff_ne.2 h
        rw [e3]; simp only [Bool.false_eq_true, if_false]
        omega
theorem ix_has (l : List UInt8) (c : UInt8) : decide (0 ≤ Lib.indexByte l c) = l.contains c := by
  apply bool_iff
  rw [decide_eq_true_eq, List.contains_iff_mem]
  exact ix_mem l c
/-- strings.IndexByte, as far as its sign goes. -/
def SignP (b : Bool) (w : World) (e : Ending) (w' : World) : Prop := ∃ v : Int, decide (0 ≤ v) = b ∧ e = .returned (.int .i64 v) ∧ w = w'
set_option maxRecDepth 100000 in
set_option maxHeartbeats 400000 in
theorem indexByteS_any (s : ByteArray) (c : Int) (h0 : 0 ≤ c) (h1 : c < 256) (w : World) :
    Calls Tryz.prog 77 #[.string s, .int .u8 c] w (SignP ((byt s).contains c) w) := by
  have hrun := Lib.run_indexByteString (P := Tryz.prog) s c w
  have hv := ix_has s.data.toList c.toNat.toUInt8
  rw [← contains_byt s c h0 h1] at hv
  have HV := Lib.hid hv
  clear hv
  generalize Lib.indexByte s.data.toList c.toNat.toUInt8 = v at *
  have lite : Calls Tryz.prog 94 #[.string s, .int .u8 c] w fun e w' => e = .returned (.int .i64 v) ∧ w = w' := by
    go_enter Tryz.func94, Tryz.ntmps94
    go_wp2
    rw [run_callFunc_extern Tryz.func105 (by kernel_rfl) (by kernel_rfl) (by kernel_rfl) (e := Extern.BytealgIndexByte.indexByte) (by kernel_rfl), hrun]
    simp only [Result.andThen]
    rw [Oper.upon_value]
    go_wp2
    go_ret
    exact ⟨rfl, rfl⟩
  have L := Lib.hid lite
  clear lite hrun
  go_enter Tryz.func77, Tryz.ntmps77
  go_wp2_with (go_at_call 94; refine L.out.mono ?_; rintro e w' ⟨rfl, rfl⟩)
  go_ret
  exact ⟨v, HV.out, rfl, rfl⟩
def nameF (l : List Int) : Bool := decide (1 ≤ l.length) && decide (l.length ≤ 32) && l.all nmb
theorem nameF_len (l : List Int) (h : l.length = 0 ∨ 32 < l.length) : nameF l = false := by
  unfold nameF
  rcases h with h | h
  · rw [decide_eq_false (show ¬ 1 ≤ l.length by omega)]; rfl
  · rw [decide_eq_false (show ¬ l.length ≤ 32 by omega)]; simp
theorem byt_take (s : ByteArray) (k : Nat) (h : k < s.size) : (byt s).take (k + 1) = (byt s).take k ++ [(s[k].toNat : Int)] := by
  rw [List.take_add_one, byt_at s k h]; rfl
set_option maxHeartbeats 400000 in
theorem name_any (s : ByteArray) (w : World) (hs : s.size ≤ maxLen) :
    Calls Tryz.prog 59 #[.string s] w fun e w' => e = .returned (.bool (nameF (byt s))) ∧ w = w' := by
  unfold maxLen at hs
  have hl := byt_len s
  by_cases hz : s.size = 0
  · have d1 : ((s.size : Int) == 0) = true := beq_iff_eq.2 (by omega)
    have hf : nameF (byt s) = false := nameF_len _ (by omega)
    rw [hf]; clear hl hf hz
    go_enter Tryz.func59, Tryz.ntmps59
    go_wp2
    go_ret
    exact ⟨rfl, rfl⟩
  by_cases hm : 32 < s.size
  · have d1 : ((s.size : Int) == 0) = false := beq_eq_false_iff_ne.2 (by omega)
    have d2 : (32 : Int) < (s.size : Int) := by omega
    have hf : nameF (byt s) = false := nameF_len _ (by omega)
    rw [hf]; clear hl hf
    go_enter Tryz.func59, Tryz.ntmps59
    go_wp2
    go_ret
    exact ⟨rfl, rfl⟩
  have d1 : ((s.size : Int) == 0) = false := beq_eq_false_iff_ne.2 (by omega)
  have d2 : decide ((32 : Int) < (s.size : Int)) = false := decide_eq_false (by omega)
  have HF : Hid (nameF (byt s) = (byt s).all nmb) := by show nameF (byt s) = _; unfold nameF; rw [hl]; simp; intros; omega
  have hl' := Lib.hid hl
  clear hl
  go_enter Tryz.func59, Tryz.ntmps59
  go_wp2
  go_loop [14] (fun i => ∃ k : Nat, k ≤ s.size ∧ i = .int .i64 k ∧ Hid (((byt s).take k).all nmb = true)) (fun i => s.size - (intOf i).toNat)
  case atStart => exact ⟨0, Nat.zero_le _, rfl, by show (List.take 0 (byt s)).all nmb = true; simp⟩
  case round =>
    obtain ⟨k, hk, rfl, HA⟩ := hrel
    by_cases hlt : k < s.size
    · cases hn : nmb (s[k].toNat : Int)
      · have hf : nameF (byt s) = false := by
          rw [HF.out, List.all_eq_false]
          exact ⟨(s[k].toNat : Int), List.mem_of_getElem? (byt_at s k hlt), by simp [hn]⟩
        have hf' := Lib.hid hf
        clear hf
        go_wp2_with (go_at_call 72; refine (nameByte_any _ _).mono ?_; rintro e w' ⟨rfl, rfl⟩)
        go_ret
        exact ⟨ret_bool hf'.out.symm, rfl⟩
      · have ht : ((byt s).take (k + 1)).all nmb = true := by rw [byt_take s k hlt, List.all_append, HA.out]; simp [hn]
        have ht' := Lib.hid ht
        clear ht
        go_wp2_with (go_at_call 72; refine (nameByte_any _ _).mono ?_; rintro e w' ⟨rfl, rfl⟩)
        go_round
        case rel => exact ⟨k + 1, by omega, by go_num, ht'⟩
        case measure => simp [intOf]; omega
    · have hf : nameF (byt s) = true := by
        rw [HF.out, ← HA.out, List.take_of_length_le (by rw [hl'.out]; omega)]
      have hf' := Lib.hid hf
      clear hf
      go_wp2
      go_ret
      exact ⟨ret_bool hf'.out.symm, rfl⟩
def blkF (l : List Int) : Nat := (l.takeWhile (· == 32)).length
theorem blk_len (l : List Int) : blkF l ≤ l.length := (List.takeWhile_sublist _).length_le
theorem blk_cons (x : Int) (t : List Int) : blkF (x :: t) = if x = 32 then blkF t + 1 else 0 := by
  unfold blkF
  rw [List.takeWhile_cons]
  by_cases hx : x = 32
  · subst hx; simp
  · rw [if_neg hx, beq_eq_false_iff_ne.2 hx]; simp
theorem drop_cons_at {l : List Int} {k : Nat} (h : k < l.length) : l.drop k = l.getD k 0 :: l.drop (k + 1) := by
  rw [List.drop_eq_getElem_cons h]
  congr 1
  simp [List.getD, h]
theorem blk_at {l : List Int} {k : Nat} (h : k < l.length) : blkF (l.drop k) = if l.getD k 0 = 32 then blkF (l.drop (k + 1)) + 1 else 0 := by rw [drop_cons_at h, blk_cons]
theorem blk_end {l : List Int} {k : Nat} (h : l.length ≤ k) : blkF (l.drop k) = 0 := by rw [List.drop_of_length_le h]; rfl
def brk (zs : List Int) : Bool := decide (1 < zs.length) && zs.getD 1 0 == 10
def mrkC (zs : List Int) : Bool := decide (3 ≤ zs.length) && zs.getD 0 0 == 239 && zs.getD 1 0 == 187 && zs.getD 2 0 == 191
set_option maxHeartbeats 1000000 in
theorem breaks_any (A : Option Addr) (n cap : Nat) (zs : List Int) (w : World) (hl : zs.length = n) (hnc : n ≤ cap) (hm : cap ≤ 9223372036854775807) (hr : RdB w A zs) :
    Calls Tryz.prog 29 #[.slice A n cap] w fun e w' => e = .returned (.bool (brk zs)) ∧ w = w' := by
  by_cases h1 : 1 < n
  · obtain ⟨b, off, rfl, hc⟩ := hr.addr (by omega)
    have c1 := hc 1 (by omega)
    have d : (1 : Int) < (n : Int) := by omega
    have e : brk zs = (zs.getD 1 0 == 10) := by unfold brk; rw [decide_eq_true (by omega)]; rfl
    rw [e]
    generalize zs.getD 1 0 = x at *
    clear e hc hr hl
    go_enter Tryz.func29, Tryz.ntmps29
    go_wp2
    go_ret
    exact ⟨rfl, rfl⟩
  · have d : decide ((1 : Int) < (n : Int)) = false := decide_eq_false (by omega)
    have e : brk zs = false := by unfold brk; rw [decide_eq_false (by omega)]; rfl
    rw [e]
    clear e hr hl
    go_enter Tryz.func29, Tryz.ntmps29
    go_wp2
    go_ret
    exact ⟨rfl, rfl⟩
set_option maxHeartbeats 1000000 in
theorem marked_any (A : Option Addr) (n cap : Nat) (zs : List Int) (w : World) (hl : zs.length = n) (hnc : n ≤ cap) (hm : cap ≤ 9223372036854775807) (hr : RdB w A zs) :
    Calls Tryz.prog 26 #[.slice A n cap] w fun e w' => e = .returned (.bool (mrkC zs)) ∧ w = w' := by
  by_cases h1 : 3 ≤ n
  · obtain ⟨b, off, rfl, hc⟩ := hr.addr (by omega)
    have c0 : w.cell? ⟨b, off, none⟩ = some (.int .u8 (zs.getD 0 0)) := hc 0 (by omega)
    have c1 := hc 1 (by omega)
    have c2 := hc 2 (by omega)
    have d : (3 : Int) ≤ (n : Int) := by omega
    have d0 : (0 : Int) < (n : Int) := by omega
    have d1 : (1 : Int) < (n : Int) := by omega
    have d2 : (2 : Int) < (n : Int) := by omega
    have e : mrkC zs = (zs.getD 0 0 == 239 && zs.getD 1 0 == 187 && zs.getD 2 0 == 191) := by unfold mrkC; rw [decide_eq_true (by omega)]; rfl
    rw [e]
    generalize zs.getD 0 0 = x at *
    generalize zs.getD 1 0 = y at *
    generalize zs.getD 2 0 = z at *
    clear e hc hr hl
    go_enter Tryz.func26, Tryz.ntmps26
    go_wp2
    all_goals (go_ret; refine ⟨ret_bool (bool_iff ?_), rfl⟩; simp_all)
  · have d : decide ((3 : Int) ≤ (n : Int)) = false := decide_eq_false (by omega)
    have e : mrkC zs = false := by unfold mrkC; rw [decide_eq_false (by omega)]; rfl
    rw [e]
    clear e hr hl
    go_enter Tryz.func26, Tryz.ntmps26
    go_wp2
    go_ret
    exact ⟨rfl, rfl⟩
def badAt (zs : List Int) : Bool := !(runeF zs).2.2 || !prt (runeF zs).1 || ((runeF zs).1 == 13 && !brk zs)
def chk : Nat → List Int → Int → Int × Int
  | 0, _, _ => (0, 0)
  | f + 1, zs, k => if zs = [] then (0, 0) else if badAt zs = true then (k, 1) else chk f (zs.drop (runeF zs).2.1.toNat) (k + (runeF zs).2.1)
def checkF (zs : List Int) : Int × Int :=
  if 65536 < zs.length then (65536, 10) else if mrkC zs = true then chk zs.length (zs.drop 3) 3 else chk zs.length zs 0
theorem chk_fuel : ∀ (f g : Nat) (zs : List Int) (k : Int), zs.length ≤ f → zs.length ≤ g → chk f zs k = chk g zs k := by
  intro f
  induction f with
  | zero =>
    intro g zs k h1 h2
    have : zs = [] := List.eq_nil_of_length_eq_zero (by omega)
    subst this
    cases g <;> simp [chk]
  | succ f ih =>
    intro g zs k h1 h2
    cases g with
    | zero =>
      have : zs = [] := List.eq_nil_of_length_eq_zero (by omega)
      subst this
      simp [chk]
    | succ g =>
      simp only [chk]
      split
      · rfl
      · rename_i hne
        split
        · rfl
        · have := runeF_n zs hne
          exact ih g _ _ (by rw [List.length_drop]; omega) (by rw [List.length_drop]; omega)
theorem chk_bad (n : Nat) (zs : List Int) (k : Int) (h1 : zs.length ≤ n) (hne : zs ≠ []) (hb : badAt zs = true) : chk n zs k = (k, 1) := by
  cases n with
  | zero => exact absurd (List.eq_nil_of_length_eq_zero (by omega)) hne
  | succ n => simp only [chk]; rw [if_neg hne, if_pos hb]
theorem chk_good (n : Nat) (zs : List Int) (k : Int) (h1 : zs.length ≤ n) (hne : zs ≠ []) (hb : badAt zs = false) : chk n zs k = chk n (zs.drop (runeF zs).2.1.toNat) (k + (runeF zs).2.1) := by
  cases n with
  | zero => exact absurd (List.eq_nil_of_length_eq_zero (by omega)) hne
  | succ n =>
    have := runeF_n zs hne
    rw [chk, if_neg hne, if_neg (by simp [hb])]
    exact chk_fuel _ _ _ _ (by rw [List.length_drop]; omega) (by rw [List.length_drop]; omega)
theorem chk_nil (n : Nat) (k : Int) : chk n [] k = (0, 0) := by cases n <;> simp [chk]
def retCheck (p : Int × Int) : Ending := .returned (.tuple #[.int .i64 p.1, .int .i64 p.2])
theorem chk_round (n k : Nat) (zs : List Int) (hl : zs.length = n) (hk : k < n) : ∃ (r : Int) (j : Nat) (ok : Bool), runeF (zs.drop k) = (r, (j : Int), ok) ∧ 1 ≤ j ∧ k + j ≤ n ∧
    ((ok = false ∨ prt r = false ∨ ((r == 13) = true ∧ brk (zs.drop k) = false)) → chk n (zs.drop k) k = ((k : Int), 1)) ∧
    (ok = true → prt r = true → ((r == 13) = false ∨ brk (zs.drop k) = true) → chk n (zs.drop k) k = chk n (zs.drop (k + j)) ((k + j : Nat) : Int)) := by
  have hne : zs.drop k ≠ [] := by intro h; have := congrArg List.length h; rw [List.length_drop] at this; simp at this; omega
  have hlen : (zs.drop k).length ≤ n := by rw [List.length_drop]; omega
  have hn := runeF_n _ hne
  rw [List.length_drop] at hn
  refine ⟨(runeF (zs.drop k)).1, (runeF (zs.drop k)).2.1.toNat, (runeF (zs.drop k)).2.2, ?_, by omega, by omega, ?_, ?_⟩
  · rw [Int.toNat_of_nonneg (by omega)]
  · intro h
    refine chk_bad n _ k hlen hne ?_
    unfold badAt
    rcases h with h | h | ⟨h, h'⟩
    · rw [h]; rfl
    · rw [h]; simp
    · rw [h, h']; simp
  · intro h1 h2 h3
    rw [chk_good n _ k hlen hne ?_]
    · rw [List.drop_drop]
      have e : (k : Int) + (runeF (zs.drop k)).2.1 = ((k + (runeF (zs.drop k)).2.1.toNat : Nat) : Int) := by omega
      rw [e]
    · unfold badAt
      rw [h1, h2]
      rcases h3 with h3 | h3 <;> rw [h3] <;> simp
set_option maxHeartbeats 1000000 in
theorem check_limit (A : Option Addr) (n cap : Nat) (w : World) (hnc : n ≤ cap) (hm : cap ≤ 9223372036854775807) (h : 65536 < n) :
    Calls Tryz.prog 18 #[.slice A n cap] w fun e w' => e = retCheck (65536, 10) ∧ w = w' := by
  have d : (65536 : Int) < (n : Int) := by omega
  go_enter Tryz.func18, Tryz.ntmps18
  go_wp2
  go_ret2
  exact ⟨rfl, rfl⟩
set_option maxHeartbeats 4000000 in
theorem check_some (b off : Nat) (n cap : Nat) (zs : List Int) (w : World) (hl : zs.length = n) (hnc : n ≤ cap) (hm : cap ≤ 9223372036854775807) (hb : Byte zs) (hr : RdB w (some ⟨b, off, none⟩) zs) (h : n ≤ 65536) :
    Calls Tryz.prog 18 #[.slice (some ⟨b, off, none⟩) n cap] w fun e w' => e = retCheck (checkF zs) ∧ w = w' := by
  have d : decide ((65536 : Int) < (n : Int)) = false := decide_eq_false (by omega)
  have HL := Lib.hid hl
  have HB := Lib.hid hb
  have HR := Lib.hid hr
  obtain ⟨m, hmk, hm3, hF⟩ : ∃ m : Nat, m ≤ n ∧ (mrkC zs = true ∧ m = 3 ∨ mrkC zs = false ∧ m = 0) ∧ checkF zs = chk n (zs.drop m) m := by
    cases hmr : mrkC zs
    · refine ⟨0, by omega, .inr ⟨rfl, rfl⟩, ?_⟩
      unfold checkF; rw [if_neg (by omega), if_neg (by simp [hmr])]; simp [hl]
    · refine ⟨3, ?_, .inl ⟨rfl, rfl⟩, ?_⟩
      · unfold mrkC at hmr; simp at hmr; omega
      · unfold checkF; rw [if_neg (by omega), if_pos hmr]; simp [hl]
  have HF := Lib.hid hF
  clear hF hl hb hr
  rcases hm3 with ⟨hmr, rfl⟩ | ⟨hmr, rfl⟩
  all_goals
    go_enter Tryz.func18, Tryz.ntmps18
    go_wp2_with (go_at_call 26; refine (marked_any _ _ _ zs _ HL.out (by omega) (by omega) HR.out).mono ?_; rintro e w' ⟨rfl, rfl⟩)
    clear hmr
    go_loop [2, 3] (fun a e => ∃ k : Nat, k ≤ n ∧ a = .int .i64 k ∧ e = .int .i64 0 ∧ Hid (checkF zs = chk n (zs.drop k) k)) (fun a _ => n - (intOf a).toNat)
    case atStart => exact ⟨_, hmk, rfl, rfl, HF⟩
    case round =>
      obtain ⟨k, hk, rfl, rfl, HA⟩ := hrel
      clear HF
      by_cases hlt : k < n
      · obtain ⟨r, j, ok, hrf, hj1, hj2, hbad, hgood⟩ := chk_round n k zs HL.out hlt
        have hly : (zs.drop k).length = n - k := by rw [List.length_drop, HL.out]
        have cr := fun W hW => rune_at (some ⟨b, off + k, none⟩) (n - k) (cap - k) (zs.drop k) W r j ok hly (by omega) (by omega) (HB.out.drop k) hW hrf
        have cb := fun W hW => breaks_any (some ⟨b, off + k, none⟩) (n - k) (cap - k) (zs.drop k) W hly (by omega) (by omega) hW
        have CR := Lib.hid cr
        have CB := Lib.hid cb
        have HBAD := Lib.hid hbad
        have HGOOD := Lib.hid hgood
        clear cr cb hbad hgood hrf hly
        generalize hbr : brk (zs.drop k) = bk at *
        clear hbr
        cases ok
        · have hfin : checkF zs = ((k : Int), 1) := by rw [HA.out]; exact HBAD.out (.inl rfl)
          have HFIN := Lib.hid hfin
          clear hfin HBAD HGOOD
          go_wp2_with (go_at_call 27; refine (CR.out _ (HR.out.drop k)).mono ?_; rintro e w' ⟨rfl, rfl⟩)
          go_ret2
          exact ⟨by rw [HFIN.out]; rfl, rfl⟩
        · cases hp : prt r
          · have hfin : checkF zs = ((k : Int), 1) := by rw [HA.out]; exact HBAD.out (.inr (.inl hp))
            have HFIN := Lib.hid hfin
            clear hfin HBAD HGOOD
            go_wp2_with (first | (go_at_call 27; refine (CR.out _ (HR.out.drop k)).mono ?_; rintro e w' ⟨rfl, rfl⟩) | (go_at_call 28; refine (prt_any _ _).mono ?_; rintro e w' ⟨rfl, rfl⟩))
            go_ret2
            exact ⟨by rw [HFIN.out]; rfl, rfl⟩
          · cases h13 : (r == 13)
            · have hfin : checkF zs = chk n (zs.drop (k + j)) ((k + j : Nat) : Int) := by rw [HA.out]; exact HGOOD.out rfl hp (.inl h13)
              have HFIN := Lib.hid hfin
              clear hfin HBAD HGOOD
              go_wp2_with (first | (go_at_call 27; refine (CR.out _ (HR.out.drop k)).mono ?_; rintro e w' ⟨rfl, rfl⟩) | (go_at_call 28; refine (prt_any _ _).mono ?_; rintro e w' ⟨rfl, rfl⟩))
              go_round
              case rel => exact ⟨k + j, hj2, by go_num, rfl, HFIN⟩
              case measure => simp [intOf]; omega
            · cases bk
              · have hfin : checkF zs = ((k : Int), 1) := by rw [HA.out]; exact HBAD.out (.inr (.inr ⟨h13, rfl⟩))
                have HFIN := Lib.hid hfin
                clear hfin HBAD HGOOD
                go_wp2_with (first | (go_at_call 27; refine (CR.out _ (HR.out.drop k)).mono ?_; rintro e w' ⟨rfl, rfl⟩) | (go_at_call 28; refine (prt_any _ _).mono ?_; rintro e w' ⟨rfl, rfl⟩) | (go_at_call 29; refine (CB.out _ (HR.out.drop k)).mono ?_; rintro e w' ⟨rfl, rfl⟩))
                go_ret2
                exact ⟨by rw [HFIN.out]; rfl, rfl⟩
              · have hfin : checkF zs = chk n (zs.drop (k + j)) ((k + j : Nat) : Int) := by rw [HA.out]; exact HGOOD.out rfl hp (.inr rfl)
                have HFIN := Lib.hid hfin
                clear hfin HBAD HGOOD
                go_wp2_with (first | (go_at_call 27; refine (CR.out _ (HR.out.drop k)).mono ?_; rintro e w' ⟨rfl, rfl⟩) | (go_at_call 28; refine (prt_any _ _).mono ?_; rintro e w' ⟨rfl, rfl⟩) | (go_at_call 29; refine (CB.out _ (HR.out.drop k)).mono ?_; rintro e w' ⟨rfl, rfl⟩))
                go_round
                case rel => exact ⟨k + j, hj2, by go_num, rfl, HFIN⟩
                case measure => simp [intOf]; omega
      · have hfin : checkF zs = (0, 0) := by
          rw [HA.out, List.drop_of_length_le (by rw [HL.out]; omega)]; exact chk_nil _ _
        have HFIN := Lib.hid hfin
        clear hfin
        go_wp2
        go_ret2
        exact ⟨by rw [HFIN.out]; rfl, rfl⟩
set_option maxHeartbeats 1000000 in
theorem check_nil (A : Option Addr) (cap : Nat) (w : World) (hm : cap ≤ 9223372036854775807) :
    Calls Tryz.prog 18 #[.slice A 0 cap] w fun e w' => e = retCheck (0, 0) ∧ w = w' := by
  have hr : RdB w A [] := fun k z h => by simp at h
  have hmr : mrkC [] = false := rfl
  go_enter Tryz.func18, Tryz.ntmps18
  go_wp2_with (go_at_call 26; refine (marked_any A 0 cap [] w rfl (by omega) hm hr).mono ?_; rintro e w' ⟨rfl, rfl⟩)
  go_loop [2, 3] (fun a e => a = .int .i64 0 ∧ e = .int .i64 0) (fun _ _ => 0)
  case atStart => exact ⟨rfl, rfl⟩
  case round =>
    obtain ⟨rfl, rfl⟩ := hrel
    go_wp2
    go_ret2
    exact ⟨rfl, rfl⟩
theorem check_any (A : Option Addr) (n cap : Nat) (zs : List Int) (w : World) (hl : zs.length = n) (hnc : n ≤ cap) (hm : cap ≤ 9223372036854775807) (hb : Byte zs) (hr : RdB w A zs) :
    Calls Tryz.prog 18 #[.slice A n cap] w fun e w' => e = retCheck (checkF zs) ∧ w = w' := by
  by_cases hlim : 65536 < n
  · have : checkF zs = (65536, 10) := by unfold checkF; rw [if_pos (by omega)]
    rw [this]
    exact check_limit A n cap w hnc hm hlim
  · by_cases h0 : n = 0
    · subst h0
      have : zs = [] := List.eq_nil_of_length_eq_zero hl
      subst this
      exact check_nil A cap w hm
    · obtain ⟨b, off, rfl, _⟩ := hr.addr (by omega)
      exact check_some b off n cap zs w hl hnc hm hb hr (by omega)
/-- Check, its answer named. -/
theorem check_at (A : Option Addr) (n cap : Nat) (zs : List Int) (w : World) (hl : zs.length = n) (hnc : n ≤ cap) (hm : cap ≤ 9223372036854775807) (hb : Byte zs) (hr : RdB w A zs) (x y : Int) (hf : checkF zs = (x, y)) :
    Calls Tryz.prog 18 #[.slice A n cap] w fun e w' => e = .returned (.tuple #[.int .i64 x, .int .i64 y]) ∧ w = w' := by
  have := check_any A n cap zs w hl hnc hm hb hr
  rw [hf] at this
  exact this
theorem ixc_eq (d : Int) (hd : 0 ≤ d ∧ d < 256) : ∀ (xs : List Int), Byte xs → Lib.indexByte (Lib.bytesOf xs) d.toNat.toUInt8 = if xs.findIdx (· == d) < xs.length then ((xs.findIdx (· == d) : Nat) : Int) else -1 := by
  intro xs
  induction xs with
  | nil => intro _; rfl
  | cons c t ih =>
    intro hb
    have hc := hb c (by simp)
    have ht := ih (fun z hz => hb z (by simp [hz]))
    simp only [Lib.bytesOf, List.map_cons, Lib.indexByte] at ht ⊢
    rw [List.findIdx_cons]
    by_cases h10 : c = d
    · subst h10; simp
    · have e1 : (UInt8.ofNat c.toNat == d.toNat.toUInt8) = false := by
        rw [beq_eq_false_iff_ne]
        intro h
        have := congrArg UInt8.toNat h
        simp at this
        omega
      have e2 : (c == d) = false := beq_eq_false_iff_ne.2 h10
      rw [e1, e2, ht]
      simp only [Bool.false_eq_true, if_false, cond_false, List.length_cons]
      generalize t.findIdx (· == d) = m
      by_cases hlt : m < t.length
      · rw [if_pos hlt, if_neg (by simp), if_pos (show m + 1 < t.length + 1 by omega)]; omega
      · rw [if_neg hlt, if_neg (show ¬ m + 1 < t.length + 1 by omega)]; rfl
def ixC (d : Int) (zs : List Int) : Int := if zs.findIdx (· == d) < zs.length then ((zs.findIdx (· == d) : Nat) : Int) else -1
set_option maxHeartbeats 400000 in
theorem indexByteC_any (d : Int) (hd : 0 ≤ d ∧ d < 256) (A : Option Addr) (n c : Nat) (zs : List Int) (w : World) (hl : zs.length = n) (hb : Byte zs) (hr : RdB w A zs) (v : Int) (hv : ixC d zs = v) :
    Calls Tryz.prog 39 #[.slice A n c, .int .u8 d] w fun e w' => e = .returned (.int .i64 v) ∧ w = w' := by
  have HV := Lib.hid hv
  clear hv
  by_cases h0 : zs = []
  · subst h0
    obtain rfl : n = 0 := by simpa using hl.symm
    have hv : v = -1 := by rw [← HV.out]; rfl
    subst hv
    cases A with
    | none =>
      clear hr hl
      go_enter Tryz.func39, Tryz.ntmps39
      go_wp2
      rw [run_callFunc_extern Tryz.func55 (by kernel_rfl) (by kernel_rfl) (by kernel_rfl) (e := Extern.BytealgIndexByte.indexByte) (by kernel_rfl), Lib.run_indexByteNil w 0 c d]
      simp only [Result.andThen]
      rw [Oper.upon_value]
      go_wp2
      go_ret
      exact ⟨rfl, rfl⟩
    | some ad =>
      have hrun : (Extern.BytealgIndexByte.indexByte #[.slice (some ad) 0 c, .int .u8 d]).run Tryz.prog w = .ok (.int .i64 (-1)) w := by
        change Sem.run Tryz.prog (do
          let b ← Extern.Bytes.bytesOf (.slice (some ad) 0 c)
          let c ← Extern.Bytes.asByte (.int .u8 d)
          match (List.range b.size).find? fun i => b[i]! == c with
          | some i => pure (goInt i)
          | none => pure (goInt (-1))) w = _
        simp only [Extern.Bytes.bytesOf, Extern.Bytes.loadBytes, Extern.Bytes.asByte, Sem.run_bind, Sem.run_pure, Result.andThen]
        rfl
      clear hr hl
      go_enter Tryz.func39, Tryz.ntmps39
      go_wp2
      rw [run_callFunc_extern Tryz.func55 (by kernel_rfl) (by kernel_rfl) (by kernel_rfl) (e := Extern.BytealgIndexByte.indexByte) (by kernel_rfl), hrun]
      simp only [Result.andThen]
      rw [Oper.upon_value]
      go_wp2
      go_ret
      exact ⟨rfl, rfl⟩
  · obtain ⟨b, off, rfl, hc⟩ := hr.addr (List.length_pos_iff.2 h0)
    have hrun := Lib.run_indexByteSlice (P := Tryz.prog) w b off n c zs hl (fun i hi => hc i (by omega)) d
    rw [ixc_eq d hd zs hb] at hrun
    have hv : (if zs.findIdx (· == d) < zs.length then ((zs.findIdx (· == d) : Nat) : Int) else -1) = v := HV.out
    rw [hv] at hrun
    clear hv hc hr hl
    go_enter Tryz.func39, Tryz.ntmps39
    go_wp2
    rw [run_callFunc_extern Tryz.func55 (by kernel_rfl) (by kernel_rfl) (by kernel_rfl) (e := Extern.BytealgIndexByte.indexByte) (by kernel_rfl), hrun]
    simp only [Result.andThen]
    rw [Oper.upon_value]
    go_wp2
    go_ret
    exact ⟨rfl, rfl⟩
theorem tmod_pos (v n : Int) (hn : 1 ≤ n) : (v.tmod n < 0 → v.tmod n + n = v % n) ∧ (0 ≤ v.tmod n → v.tmod n = v % n) := by
  have h := Int.tmod_eq_emod (a := v) (b := n)
  have h1 := Int.emod_nonneg v (show n ≠ 0 by omega)
  have h2 := Int.emod_lt_of_pos v (show 0 < n by omega)
  rw [h]
  split <;> omega
set_option maxHeartbeats 400000 in
theorem within_any (v n : Int) (w : World) (h1 : 1 ≤ n) (h2 : n ≤ 2000000000) (hv : -9223372036854775808 ≤ v ∧ v ≤ 9223372036854775807) :
    Calls Tryz.prog 5 #[.int .i64 v, .int .i64 n] w fun e w' => e = .returned (.int .i64 (v % n)) ∧ w = w' := by
  have H := Lib.hid (tmod_pos v n h1)
  have hm1 := Int.emod_nonneg v (show n ≠ 0 by omega)
  have hm2 := Int.emod_lt_of_pos v (show 0 < n by omega)
  go_enter Tryz.func5, Tryz.ntmps5
  go_wp2
  · go_ret
    have h := H.out.1 (by assumption)
    refine ⟨ret_int ?_, rfl⟩
    rw [h, IntWalk.wrap64_in _ (by omega)]
  · go_ret
    exact ⟨ret_int (H.out.2 (by assumption)), rfl⟩
/-- Within, as a natural number. -/
def WithinP (n : Nat) (w : World) (e : Ending) (w' : World) : Prop := ∃ k : Nat, k < n ∧ e = .returned (.int .i64 (k : Int)) ∧ w = w'
theorem within_nat (v : Int) (n : Nat) (w : World) (h1 : 1 ≤ n) (h2 : n ≤ 2000000000) (hv : -9223372036854775808 ≤ v ∧ v ≤ 9223372036854775807) :
    Calls Tryz.prog 5 #[.int .i64 v, .int .i64 (n : Int)] w (WithinP n w) := by
  refine (within_any v n w (by omega) (by omega) hv).mono ?_
  rintro e w' ⟨rfl, rfl⟩
  have hm1 := Int.emod_nonneg v (show (n : Int) ≠ 0 by omega)
  have hm2 := Int.emod_lt_of_pos v (show (0 : Int) < n by omega)
  exact ⟨(v % n).toNat, by omega, ret_int (by omega), rfl⟩
theorem one_more (w W : World) (A : Option Addr) (cap p : Nat) (out : List Int) (hp : out.length = p) (hown : W.ownsRow w.heap.size 5 1 (.slice A p cap) p (out.map (Value.int .u8))) (hb : Below w.heap.size w W) (z : Int) (hsz : p + 1 ≤ 1000000000) :
    ∃ A' cap' W', (Builtin.append_ #[35, 35] 35 #[.slice A p cap, .slice (some ⟨W.heap.size, 0, none⟩) 1 1]).run Tryz.prog (W.alloc (.cells #[.int .u8 z] 5)) = .ok (.slice A' (p + 1) cap') W' ∧
      p + 1 ≤ cap' ∧ cap' ≤ 9223372036854775807 ∧ (A' = none → cap' = 0) ∧ W'.ownsRow w.heap.size 5 1 (.slice A' (p + 1) cap') (p + 1) ((out ++ [z]).map (Value.int .u8)) ∧ Below w.heap.size w W' := by
  have hs := hb.size
  have hbel : Below w.heap.size w (W.alloc (.cells #[.int .u8 z] 5)) := hb.alloc hs _
  obtain ⟨v', W', hrun, ho, hg, hv⟩ := run_append_bytes (W.alloc (.cells #[.int .u8 z] 5)) w.heap.size _ p out (own_alloc hown _) (by simp; omega) (some ⟨W.heap.size, 0, none⟩) 1 1 [z] rfl
    (RdB.new rfl (fun k y hy => by
      match k with
      | 0 => simp at hy; subst hy; rfl
      | k + 1 => simp at hy)) hsz
  obtain ⟨A', cap', rfl, h1, h2, h3⟩ := own_form ho
  exact ⟨A', cap', W', hrun, h1, h2, h3, ho, hbel.grown hg (by simp; omega) (own_base hown)⟩
section
variable {P : Program} {ops : Array Oper} {Q : Exit → Act → World → Prop} {md : Region.Mode} {S : World → Prop} {t : Nat}
/-- The list of what has come up, with one more. -/
def upOne (L : Array Bool) (i : Nat) : Array Bool := L.setIfInBounds i true
/-- Has the gate not come up yet? -/
def Shut (t : Nat) (L : Array Bool) : Prop := L.getD t true = false
/-- Whatever order: while the gate t has not come up, S holds behind each operation. -/
def wpGate (P : Program) (md : Region.Mode) (ops : Array Oper) (Q : Exit → Act → World → Prop) (S : World → Prop) (t : Nat) : Nat → Array Bool → Act → World → Prop
  | 0, L, a, w => Region.ready md ops L = [] ∧ Q .normal a w
  | n + 1, L, a, w => (Region.ready md ops L = [] → Q .normal a w) ∧
      ∀ i ∈ Region.ready md ops L, wpOp P ops Q i (fun a' w' => (Shut t (upOne L i) → S w') ∧ wpGate P md ops Q S t n (upOne L i) a' w') a w
theorem any_of_gate (n : Nat) : ∀ (L : Array Bool) (a : Act) (w : World), wpGate P md ops Q S t n L a w → wpAny P md ops Q n L a w := by
  induction n with
  | zero => exact fun _ _ _ h => h
  | succ n ih => exact fun L a w h => ⟨h.1, fun i hi => wpOp_mono (fun a' w' hk => ih _ _ _ hk.2) (h.2 i hi)⟩
theorem region_gate {id : Nat} {a : Act} {w : World} (S : World → Prop) (t : Nat) (hm : P.follows .mixedOrders = true)
    (h : wpGate P .any ops Q S t ops.size (Array.replicate ops.size false) a w.drew) : (Code.region id ops true).wp P Q a w :=
  wp_region_any hm (any_of_gate _ _ _ _ h)
theorem gate_done {L : Array Bool} {a : Act} {w : World} (hr : Region.ready md ops L = []) (h : Q .normal a w) (n : Nat) : wpGate P md ops Q S t n L a w := by
  cases n with
  | zero => exact ⟨hr, h⟩
  | succ n => exact ⟨fun _ => h, fun i hi => by rw [hr] at hi; cases hi⟩
theorem gate_one {i n : Nat} {L : Array Bool} {a : Act} {w : World} (hr : Region.ready md ops L = [i])
    (h : wpOp P ops Q i (fun a' w' => (Shut t (upOne L i) → S w') ∧ wpGate P md ops Q S t n (upOne L i) a' w') a w) : wpGate P md ops Q S t (n + 1) L a w :=
  ⟨fun h0 => (by rw [hr] at h0; cases h0), fun j hj => by rw [hr] at hj; simp at hj; subst hj; exact h⟩
theorem shut_up {L : Array Bool} {i : Nat} (h : i ≠ t) : Shut t (upOne L i) ↔ Shut t L := by
  unfold Shut upOne; rw [getD_set_ne true h]
theorem up_comm (L : Array Bool) {i j : Nat} (h : i ≠ j) : upOne (upOne L i) j = upOne (upOne L j) i := Array.setIfInBounds_comm _ _ h
/-- Of two that may come up now neither waits for the other. -/
theorem no_wait {L : Array Bool} {i j : Nat} {oj : Oper} (hi : i ∈ Region.ready md ops L) (hj : j ∈ Region.ready md ops L) (ho : ops[j]? = some oj) : ∀ e ∈ oj.after, Region.binds md e = true → e.on ≠ i := by
  rintro e he hb rfl
  obtain ⟨_, o', ho', hall⟩ := mem_ready.1 hj
  rw [ho] at ho'
  cases ho'
  have up := hall e he hb
  have down := (mem_ready.1 hi).1
  by_cases hs : e.on < L.size
  · simp [hs] at up down
    rw [up] at down
    cases down
  · simp [Array.getElem?_eq_none (Nat.le_of_not_lt hs)] at up
/-- Nobody who could come ahead of i, from L on, meddles with it. -/
def Alone (md : Region.Mode) (ops : Array Oper) (oi : Oper) (i : Nat) (L : Array Bool) : Prop :=
  ∀ j oj, ops[j]? = some oj → j ≠ i → L.getD j true = false → (∀ e ∈ oj.after, Region.binds md e = true → e.on ≠ i) → oi.apart ops oj = true
theorem Alone.up {oi : Oper} {i j : Nat} {L : Array Bool} (h : Alone md ops oi i L) (hj : L.getD j true = false) : Alone md ops oi i (upOne L j) := by
  intro k ok hk hki hun hw
  refine h k ok hk hki ?_ hw
  by_cases e : j = k
  · exact e ▸ hj
  · unfold upOne at hun; rwa [getD_set_ne true e] at hun
/-- **One operation is taken first.** C: what it wants of the world; G: what is true of the list as long as it has not come up. -/
theorem gate_move {C : World → Prop} {G : Array Bool → Prop} {i : Nat} {oi : Oper} {v : Value} (hit : i ≠ t) (hi : ops[i]? = some oi) (hsel : ∀ (j : Nat) (o : Oper) cs b, ops[j]? = some o → o.op ≠ .select cs b)
    (hQ : ∀ c a w, Q (.panic c) (a.put oi.dst v) w → Q (.panic c) a w) (hC : ∀ L w, G L → (Shut t L → S w) → C w)
    (hG : ∀ L j, G L → i ∈ Region.ready md ops L → j ∈ Region.ready md ops L → j ≠ i → G (upOne L j)) (n : Nat) :
    ∀ (L : Array Bool) (a : Act) (w : World), Alone md ops oi i L → G L → i ∈ Region.ready md ops L → YieldsIf P ops C oi v a → (Shut t L → S w) →
      wpGate P md ops Q S t n (upOne L i) (a.put oi.dst v) w → wpGate P md ops Q S t (n + 1) L a w := by
  have itself : ∀ (m : Nat) (L : Array Bool) (a : Act) (w : World), G L → YieldsIf P ops C oi v a → (Shut t L → S w) → wpGate P md ops Q S t m (upOne L i) (a.put oi.dst v) w →
      wpOp P ops Q i (fun a' w' => (Shut t (upOne L i) → S w') ∧ wpGate P md ops Q S t m (upOne L i) a' w') a w :=
    fun m L a w g y s H => y.wpOp hi (hC L w g s) ⟨fun h => s ((shut_up hit).1 h), H⟩
  induction n with
  | zero =>
    intro L a w _ g hr y s H
    refine ⟨fun h => (by rw [h] at hr; cases hr), fun j hj => ?_⟩
    rcases Nat.decEq j i with hne | rfl
    · have := ready_mono hj hne
      unfold upOne at H
      rw [H.1] at this
      cases this
    · exact itself 0 L a w g y s H
  | succ n ih =>
    intro L a w al g hr y s H
    refine ⟨fun h => (by rw [h] at hr; cases hr), fun j hj => ?_⟩
    rcases Nat.decEq j i with hne | rfl
    · obtain ⟨hun, oj, hoj, _⟩ := mem_ready.1 hj
      have rest := H.2 j (ready_mono hj hne)
      have moved := wpOp_putIf hoj (al j oj hoj hne hun (no_wait hr hj hoj)) (fun cs b => hsel i oi cs b hi) (fun cs b => hsel j oj cs b hoj) hQ y rest
      refine wpOp_mono (fun a' w' k => ?_) moved
      have s' : Shut t (upOne L j) → S w' := fun h => k.2.1 (by rw [up_comm L (Ne.symm hne), shut_up hit]; exact h)
      exact ⟨s', ih (upOne L j) a' w' (al.up hun) (hG L j g hr hj hne) (ready_mono hr (Ne.symm hne)) k.1 s' (by rw [← up_comm L (Ne.symm hne)]; exact k.2.2)⟩
    · exact itself (n + 1) L a w g y s H
/-- The gate waits for i. -/
def waitsFor (md : Region.Mode) (ops : Array Oper) (t i : Nat) : Bool := match ops[t]? with
  | some o => o.after.toList.any fun e => Region.binds md e && decide (e.on = i)
  | none => false
theorem gate_take0 {i : Nat} {oi : Oper} {v : Value} {n : Nat} {L : Array Bool} {a : Act} {w : World} (hi : ops[i]? = some oi) (hit : decide (i ≠ t) = true)
    (hs : Region.noSelect ops = true) (hf : Region.free md ops L i = true) (hr : (Region.ready md ops L).contains i = true)
    (hQ : ∀ c a w, Q (.panic c) (a.put oi.dst v) w → Q (.panic c) a w) (hw : Region.wanted oi (yielded ops a.tmps) = true) (hy : ∀ w, (execOp a.eval oi).run P w = .ok (.value v) w) (hS : S w)
    (h : wpGate P md ops Q S t n (upOne L i) (a.put oi.dst v) w) : wpGate P md ops Q S t (n + 1) L a w :=
  gate_move (C := fun _ => True) (G := fun _ => True) (of_decide_eq_true hit) hi (Region.noSelect_spec hs) hQ (fun _ _ _ _ => trivial) (fun _ _ _ _ _ _ => trivial) n L a w (Region.free_spec hi hf) trivial (by simpa using hr) (.inl ⟨hw, fun w _ => hy w⟩) (fun _ => hS) h
theorem gate_take {i : Nat} {oi : Oper} {v : Value} {n : Nat} {L : Array Bool} {a : Act} {w : World} (hi : ops[i]? = some oi) (hit : decide (i ≠ t) = true) (hwt : waitsFor md ops t i = true) (hlt : L.getD t true = false)
    (hs : Region.noSelect ops = true) (hf : Region.free md ops L i = true) (hr : (Region.ready md ops L).contains i = true)
    (hQ : ∀ c a w, Q (.panic c) (a.put oi.dst v) w → Q (.panic c) a w) (hw : Region.wanted oi (yielded ops a.tmps) = true) (hy : ∀ w, S w → (execOp a.eval oi).run P w = .ok (.value v) w) (hS : S w)
    (h : wpGate P md ops Q S t n (upOne L i) (a.put oi.dst v) w) : wpGate P md ops Q S t (n + 1) L a w := by
  have hG : ∀ L j, Shut t L → i ∈ Region.ready md ops L → j ∈ Region.ready md ops L → j ≠ i → Shut t (upOne L j) := by
    intro L j hL hri hrj _
    refine (shut_up ?_).2 hL
    rintro rfl
    unfold waitsFor at hwt
    split at hwt
    · rename_i o ho
      obtain ⟨e, he, hb⟩ := List.any_eq_true.1 hwt
      simp at hb
      exact no_wait hri hrj ho e (by simpa using he) hb.1 hb.2
    · cases hwt
  exact gate_move (C := S) (G := Shut t) (of_decide_eq_true hit) hi (Region.noSelect_spec hs) hQ (fun _ _ g s => s g) hG n L a w (Region.free_spec hi hf) hlt (by simpa using hr) (.inl ⟨hw, hy⟩) (fun _ => hS) h
/-- One operation, whatever it is: a value, a call that turns nothing, a store. -/
theorem wpOp_value {i : Nat} {o : Oper} {v : Value} {a : Act} {w w' : World} {K : Act → World → Prop} (hi : ops[i]? = some o) (hw : Region.wanted o (yielded ops a.tmps) = true) (hr : (execOp a.eval o).run P w = .ok (.value v) w') (h : K (a.put o.dst v) w') : wpOp P ops Q i K a w := by
  unfold wpOp
  simp only [hi, hw, if_true, Oper.wp, hr, Oper.upon]
  exact .inl h
theorem wpOp_skip {i : Nat} {o : Oper} {a : Act} {w w' : World} {K : Act → World → Prop} (hi : ops[i]? = some o) (hw : Region.wanted o (yielded ops a.tmps) = true) (hr : (execOp a.eval o).run P w = .ok .skip w') (h : K (a.put o.dst undef) w') : wpOp P ops Q i K a w := by
  unfold wpOp
  simp only [hi, hw, if_true, Oper.wp, hr, Oper.upon]
  exact .inl h
end
theorem gen_act {P : Program} {c : Code} {Q : Exit → Act → World → Prop} {a : Act} {w : World} (h : ∀ a0 : Act, a0 = a → Code.wp P c Q a0 w) : Code.wp P c Q a w := h a rfl
theorem evp_same (a : Act) (d : Nat) (v : Value) (h : d < a.tmps.size) : (a.put (some d) v).eval (.tmp d) = v := by
  simp [Act.eval, Act.put, Array.getD, h]
theorem evp_ne (a : Act) (d d' : Nat) (v : Value) (h : d ≠ d') : (a.put (some d) v).eval (.tmp d') = a.eval (.tmp d') :=
  Act.eval_put fun x hx he => by
    injection hx with hx
    injection he with he
    exact h (hx.trans he.symm)
theorem szp (a : Act) (x : Option Tmp) (v : Value) : (a.put x v).tmps.size = a.tmps.size := by
  cases x <;> simp [Act.put]
section
variable {P : Program} {ops : Array Oper} {Q : Exit → Act → World → Prop} {md : Region.Mode} {t : Nat}
/-- Those of I wait for nothing but what has come up in Lf; whatever has not come up in Lf waits for all of I, or for another one that has not come up. -/
def anyOk (md : Region.Mode) (ops : Array Oper) (I : List Nat) (Lf : Array Bool) : Bool :=
  decide (Lf.size = ops.size) &&
  (I.all (fun i => decide (i < ops.size) && (match ops[i]? with | some o => o.after.toList.all (fun e => !Region.binds md e || (!I.contains e.on && Lf.getD e.on false)) | none => false)) &&
  (List.range ops.size).all (fun j => Lf.getD j true || (match ops[j]? with | some o => I.all (fun i => o.after.toList.any (fun e => Region.binds md e && e.on == i)) || o.after.toList.any (fun e => Region.binds md e && !Lf.getD e.on true) | none => false)))
theorem getD_ltL {L : Array Bool} {i : Nat} (h : L.getD i true = false) : i < L.size ∧ L.getD i false = false := by
  by_cases hi : i < L.size
  · refine ⟨hi, ?_⟩
    simp [Array.getD, hi] at h ⊢
    exact h
  · simp [Array.getD, hi] at h
theorem getD_upL {L : Array Bool} {i : Nat} (h : L.getD i false = true) : L.getD i true = true ∧ i < L.size := by
  by_cases hi : i < L.size
  · refine ⟨?_, hi⟩
    simp [Array.getD, hi] at h ⊢
    exact h
  · simp [Array.getD, hi] at h
theorem getD_ofL {L : Array Bool} {i : Nat} (h : L.getD i true = true) (hi : i < L.size) : L.getD i false = true := by
  simp [Array.getD, hi] at h ⊢
  exact h
theorem upOne_size (L : Array Bool) (i : Nat) : (upOne L i).size = L.size := by simp [upOne]
theorem upOne_getD (L : Array Bool) (i j : Nat) (hi : i < L.size) : (upOne L i).getD j true = if j = i then true else L.getD j true := by
  by_cases h : j = i
  · subst h
    rw [if_pos rfl]
    simp [upOne, Array.getD, hi]
  · rw [if_neg h]
    unfold upOne
    rw [getD_set_ne true (fun e => h e.symm)]
theorem array_same {L M : Array Bool} (hs : L.size = M.size) (h : ∀ i, L.getD i true = M.getD i true) : L = M := by
  apply Array.ext hs
  intro i h1 h2
  have := h i
  simp [Array.getD, h1, h2] at this
  exact this
theorem gate_any {a : Act} {I : List Nat} {Lf : Array Bool} {r : Nat} (hok : anyOk md ops I Lf = true) (Inv : Nat → World → Prop)
    (step : ∀ i ∈ I, ∀ k w, Inv (k + 1) w → wpOp P ops Q i (fun a' w' => a' = a ∧ Inv k w') a w)
    (rest : ∀ w, Inv 0 w → wpGate P md ops Q (fun _ => True) t r Lf a w) :
    ∀ (k : Nat) (J : List Nat) (L : Array Bool) (w : World), J.Nodup → (∀ i ∈ J, i ∈ I) → J.length = k → L.size = ops.size → (∀ i, L.getD i true = (Lf.getD i true && !decide (i ∈ J))) → Inv k w → wpGate P md ops Q (fun _ => True) t (k + r) L a w := by
  unfold anyOk at hok
  simp only [Bool.and_eq_true, decide_eq_true_eq, List.all_eq_true] at hok
  obtain ⟨hsz, hI, hR⟩ := hok
  intro k
  induction k with
  | zero =>
    intro J L w hnd hJ hlen hL hrel hinv
    have : J = [] := List.eq_nil_of_length_eq_zero hlen
    subst this
    have e : L = Lf := array_same (by rw [hL, hsz]) (fun i => by rw [hrel i]; simp)
    rw [e, Nat.zero_add]
    exact rest w hinv
  | succ k ih =>
    intro J L w hnd hJ hlen hL hrel hinv
    obtain ⟨j0, J', rfl⟩ : ∃ x l, J = x :: l := by
      cases J with
      | nil => simp at hlen
      | cons x l => exact ⟨x, l, rfl⟩
    have hj0 : L.getD j0 true = false := by rw [hrel j0]; simp
    rw [show k + 1 + r = k + r + 1 by omega]
    refine ⟨fun h => ?_, fun i hi => ?_⟩
    · have hm : j0 ∈ Region.ready md ops L := by
        rw [mem_ready]
        refine ⟨hj0, ?_⟩
        have h0 := hI j0 (hJ j0 (by simp))
        cases ho : ops[j0]? with
        | none => rw [ho] at h0; simp at h0
        | some o =>
          rw [ho] at h0
          refine ⟨o, rfl, fun e he hb => ?_⟩
          have h1 := List.all_eq_true.1 h0.2 e (by simpa using he)
          rw [hb] at h1
          simp only [Bool.not_true, Bool.false_or, Bool.and_eq_true, Bool.not_eq_true'] at h1
          have h2 := getD_upL h1.2
          refine getD_ofL ?_ (by rw [hL, ← hsz]; exact h2.2)
          rw [hrel, h2.1]
          have : e.on ∉ j0 :: J' := fun hc => by
            have := hJ _ hc
            have h3 := h1.1
            rw [List.contains_eq_mem] at h3
            simp [this] at h3
          simp [this]
      rw [h] at hm
      cases hm
    · by_cases hiJ : i ∈ j0 :: J'
      · refine wpOp_mono (fun a' w' hk => ?_) (step i (hJ i hiJ) k w hinv)
        obtain ⟨rfl, hk⟩ := hk
        refine ⟨fun _ => trivial, ?_⟩
        have hiL : i < L.size := (getD_ltL (mem_ready.1 hi).1).1
        refine ih ((j0 :: J').erase i) (upOne L i) w' (hnd.erase i) (fun x hx => hJ x (List.mem_of_mem_erase hx)) (by rw [List.length_erase_of_mem hiJ, hlen]; omega) (by rw [upOne_size, hL]) (fun x => ?_) hk
        rw [upOne_getD L i x hiL]
        by_cases hx : x = i
        · subst hx
          rw [if_pos rfl]
          have h1 : ¬ x ∈ (j0 :: J').erase x := by rw [hnd.mem_erase_iff]; simp
          have h2 : Lf.getD x true = true := by
            cases h3 : Lf.getD x true with
            | true => rfl
            | false =>
              exfalso
              have h4 := hR x (List.mem_range.2 (by rw [← hL]; exact hiL))
              rw [h3, Bool.false_or] at h4
              obtain ⟨_, o, ho, hall⟩ := mem_ready.1 hi
              rw [ho] at h4
              simp only [Bool.or_eq_true] at h4
              rcases h4 with h4 | h4
              · have h5 := List.all_eq_true.1 h4 x (hJ x hiJ)
                obtain ⟨e, he, hb⟩ := List.any_eq_true.1 h5
                simp only [Bool.and_eq_true, beq_iff_eq] at hb
                have := hall e (by simpa using he) hb.1
                rw [hb.2] at this
                have h6 := (getD_ltL (mem_ready.1 hi).1).2
                rw [this] at h6; cases h6
              · obtain ⟨e, he, hb⟩ := List.any_eq_true.1 h4
                simp only [Bool.and_eq_true, Bool.not_eq_true'] at hb
                have := getD_upL (hall e (by simpa using he) hb.1)
                rw [hrel, hb.2] at this
                simp at this
          simp [h1, h2]
        · rw [if_neg hx, hrel x]
          have : (x ∈ (j0 :: J').erase i) ↔ x ∈ j0 :: J' := by rw [hnd.mem_erase_iff]; simp [hx]
          simp only [this]
      · exfalso
        have hd := (mem_ready.1 hi).1
        rw [hrel i] at hd
        have h3 : Lf.getD i true = false := by
          cases h : Lf.getD i true with
          | true => rw [h, Bool.true_and, decide_eq_false hiJ] at hd; cases hd
          | false => rfl
        have hiL : i < L.size := (getD_ltL (mem_ready.1 hi).1).1
        have h4 := hR i (List.mem_range.2 (by rw [← hL]; exact hiL))
        rw [h3, Bool.false_or] at h4
        obtain ⟨_, o, ho, hall⟩ := mem_ready.1 hi
        rw [ho] at h4
        simp only [Bool.or_eq_true] at h4
        rcases h4 with h4 | h4
        · have h5 := List.all_eq_true.1 h4 j0 (hJ j0 (by simp))
          obtain ⟨e, he, hb⟩ := List.any_eq_true.1 h5
          simp only [Bool.and_eq_true, beq_iff_eq] at hb
          have := hall e (by simpa using he) hb.1
          rw [hb.2] at this
          have h6 := (getD_ltL hj0).2
          rw [this] at h6; cases h6
        · obtain ⟨e, he, hb⟩ := List.any_eq_true.1 h4
          simp only [Bool.and_eq_true, Bool.not_eq_true'] at hb
          have := getD_upL (hall e (by simpa using he) hb.1)
          rw [hrel, hb.2] at this
          simp at this
end
end Go.Proofs.YtnecapmnbaemiaaGreatDoor
