/- What every stage needs of memory: bytes that an address leads to, rows of cells, texts, appends, conversions. No function of the program. · Chapter 1 (runes, printable runes, names) as Lean functions on lists of numbers, and what they come to. No program. · The contracts of package chars' plain calls: lead, surrogate, Space, Digit, Printable, nameByte, Rune. · The contracts of the document's answers for runes: Printable, Rune. · Texts of runes that are all printable, without breaks (and tabs, or not): the plain function; the document's answers 'clean' and 'in'; strings.IndexByte. · Names: the contracts of chars.Name and of the document's Letter and Name. · The blanks at a list's beginning, as a Lean function. No program. · chars.Check, and the document's: which bytes are a text. · The contracts of package bytes' plain calls (Equal, HasPrefix); constants as bytes in memory. · The contracts of package scholiumkeep's plain helps: Within, Text, Copy and Cut of bytes, Lend, Intact. · A region that draws its order, whose loads come ahead of a store (the gate): what is held of memory need be held up to the gate alone. · bytes.IndexByte, whatever the byte. · Single bytes put behind bytes of our own: 'append(out, c)', '[]byte{c}'. · The document's answer 'clean': is a text runes that are all printable, without breaks (and tabs, or not)? · A text put behind bytes of our own: 'append(out, s...)'. · An append whose run is known, as a step of a region that draws. · A slice of texts that came in: what its reading tells of memory. · A slice of numbers that came in: what its reading tells of memory. -/
import Derived.Test.YtcddlconcngjlaaRows
import Derived.WalkKit
import Derived.WalkSpells
import Derived.WalkLawsBesides
import Derived.Lib.Hide
import Derived.Lib.Strings
import Derived.Laws.MakeOwn
import Derived.Laws.OwnMore
import Derived.Laws.BytesArg
import Derived.Lib.ConvBytes
import Derived.Maps.AppendAt
import Derived.Laws.CopyRow
import Derived.Laws.CopyOwn
import Derived.Deep.QuietTactic
import Derived.BigQuiet
import Derived.ProofKit
import Derived.Lib.SlBytesConst
import Derived.OpenShut
import Derived.Laws.BitsLemmas
import Derived.Lib.BytesEntry
import Derived.OrdersHeld
import Derived.Lib.AppendStr
import Derived.Deep.RegionHeld3
import Derived.Deep.AppendLies
import Derived.SliceStrings
set_option linter.unusedSimpArgs false
set_option linter.unusedVariables false
namespace Go.Proofs.Ytcddlconcngjlaa
open Go.RowKit
set_option linter.unusedVariables false
set_option maxRecDepth 100000
theorem ret_bool {a b : Bool} (h : a = b) : Ending.returned (.bool a) = .returned (.bool b) := by rw [h]
theorem ret_int {k : IntKind} {a b : Int} (h : a = b) : Ending.returned (.int k a) = .returned (.int k b) := by rw [h]
theorem ret_str {a b : ByteArray} (h : a = b) : Ending.returned (.string a) = .returned (.string b) := by rw [h]
theorem bool_iff {a b : Bool} (h : a = true ↔ b = true) : a = b := by rwa [Bool.eq_iff_iff]
theorem getD_at {zs : List Int} {k : Nat} (h : k < zs.length) : zs[k]? = some (zs.getD k 0) := by
  rw [List.getElem?_eq_getElem h]; simp [List.getD, h]
theorem add_plain (b off k : Nat) : (⟨b, off, none⟩ : Addr).add k = ⟨b, off + k, none⟩ := by unfold Addr.add; split <;> simp_all
theorem below_draws {B : Nat} {a w : World} (h : Below B a w) (n : Nat) : Below B a (w.drewN n) := ⟨h.os, h.tape, h.output, h.size, h.block⟩
theorem below_step {a b c : World} (h : Below a.heap.size a b) (k : Below b.heap.size b c) : Below a.heap.size a c := h.trans (k.mono h.size)
def byt (s : ByteArray) : List Int := s.data.toList.map fun c => (c.toNat : Int)
def Byte (zs : List Int) : Prop := ∀ z ∈ zs, 0 ≤ z ∧ z < 256
theorem byt_len (s : ByteArray) : (byt s).length = s.size := by simp [byt]
theorem byt_at (s : ByteArray) (k : Nat) (h : k < s.size) : (byt s)[k]? = some (s[k].toNat : Int) := by
  simp [byt]; exact ⟨s[k], by rw [Array.getElem?_eq_getElem (by simpa using h)]; rfl, rfl⟩
theorem byt_byte (s : ByteArray) : Byte (byt s) := by
  intro z hz; simp [byt] at hz; obtain ⟨c, _, rfl⟩ := hz; have := c.toNat_lt; omega
theorem byt_append (s t : ByteArray) : byt (s ++ t) = byt s ++ byt t := by simp [byt]
theorem byt_extract (s : ByteArray) (a b : Nat) : byt (s.extract a b) = ((byt s).drop a).take (b - a) := by
  unfold byt; rw [Lib.extract_data, List.map_take, List.map_drop]
theorem byt_inj {s t : ByteArray} (h : byt s = byt t) : s = t := by
  unfold byt at h
  have hi : ∀ a b : UInt8, ((fun c : UInt8 => (c.toNat : Int)) a = (fun c : UInt8 => (c.toNat : Int)) b) → a = b := by
    intro a b hab
    have : a.toNat = b.toNat := Int.ofNat.inj hab
    exact UInt8.toNat_inj.1 this
  have := (List.map_inj_right hi).1 h
  exact ByteArray.ext (Array.toList_inj.1 this)
theorem byt_strOfNums (zs : List Int) (h : Byte zs) : byt (strOfNums zs) = zs := by
  unfold byt
  rw [strOfNums_data, List.map_map]
  have : ∀ z ∈ zs, ((fun c : UInt8 => (c.toNat : Int)) ∘ fun n : Int => UInt8.ofNat n.toNat) z = z := by
    intro z hz
    have := h z hz
    simp only [Function.comp]
    rw [UInt8.toNat_ofNat']
    omega
  rw [List.map_congr_left this]
  simp
theorem strOfNums_byt (s : ByteArray) : strOfNums (byt s) = s := byt_inj (byt_strOfNums _ (byt_byte s))
theorem Byte.drop {zs : List Int} (h : Byte zs) (m : Nat) : Byte (zs.drop m) := fun z hz => h z (List.mem_of_mem_drop hz)
theorem Byte.take {zs : List Int} (h : Byte zs) (m : Nat) : Byte (zs.take m) := fun z hz => h z (List.mem_of_mem_take hz)
theorem Byte.append {zs ys : List Int} (h : Byte zs) (k : Byte ys) : Byte (zs ++ ys) := fun z hz => by
  rcases List.mem_append.1 hz with h1 | h1
  · exact h z h1
  · exact k z h1
theorem Byte.at_ {zs : List Int} (h : Byte zs) {k : Nat} (hk : k < zs.length) : 0 ≤ zs.getD k 0 ∧ zs.getD k 0 < 256 := h _ (List.mem_of_getElem? (getD_at hk))
def RdC (w : World) (A : Option Addr) (cs : List Value) : Prop := ∀ k v, cs[k]? = some v → ∃ b off, A = some ⟨b, off, none⟩ ∧ w.cell? ⟨b, off + k, none⟩ = some v
def RdB (w : World) (A : Option Addr) (zs : List Int) : Prop := ∀ k z, zs[k]? = some z → ∃ b off, A = some ⟨b, off, none⟩ ∧ w.cell? ⟨b, off + k, none⟩ = some (.int .u8 z)
section
variable {w w' : World} {A : Option Addr} {cs : List Value} {zs : List Int}
theorem RdB.toC (h : RdB w A zs) : RdC w A (zs.map (Value.int .u8)) := by
  intro k v hv
  rw [List.getElem?_map] at hv
  cases hz : zs[k]? with
  | none => rw [hz] at hv; simp at hv
  | some z => rw [hz] at hv; simp at hv; subst hv; exact h k z hz
theorem RdC.toB (h : RdC w A (zs.map (Value.int .u8))) : RdB w A zs := fun k z hz => h k _ (by simp [hz])
theorem RdC.addr (h : RdC w A cs) (hl : 0 < cs.length) : ∃ b off, A = some ⟨b, off, none⟩ ∧ ∀ k v, cs[k]? = some v → w.cell? ⟨b, off + k, none⟩ = some v := by
  cases cs with
  | nil => simp at hl
  | cons c t =>
    obtain ⟨b, off, rfl, _⟩ := h 0 c rfl
    refine ⟨b, off, rfl, fun k v hv => ?_⟩
    obtain ⟨b', off', e, hc⟩ := h k v hv
    injection e with e
    injection e with e1 e2
    subst e1 e2
    exact hc
theorem RdB.addr (h : RdB w A zs) (hl : 0 < zs.length) : ∃ b off, A = some ⟨b, off, none⟩ ∧ ∀ k, k < zs.length → w.cell? ⟨b, off + k, none⟩ = some (.int .u8 (zs.getD k 0)) := by
  obtain ⟨b, off, e, hc⟩ := h.toC.addr (by simpa using hl)
  exact ⟨b, off, e, fun k hk => hc k _ (by rw [List.getElem?_map, getD_at hk]; rfl)⟩
theorem RdC.none_ (h : RdC w none cs) : cs = [] := by
  cases cs with
  | nil => rfl
  | cons c t => obtain ⟨b, off, e, _⟩ := h 0 c rfl; cases e
theorem RdB.none_ (h : RdB w none zs) : zs = [] := by simpa using h.toC.none_
theorem RdC.nil (w : World) (A : Option Addr) : RdC w A [] := fun k v h => by simp at h
theorem RdB.nil (w : World) (A : Option Addr) : RdB w A [] := fun k v h => by simp at h
theorem RdC.below (h : RdC w A cs) (hb : Below w.heap.size w w') : RdC w' A cs := by
  intro k v hv
  obtain ⟨b, off, e, hc⟩ := h k v hv
  exact ⟨b, off, e, by rw [hb.cell (p := ⟨b, off + k, none⟩) (World.block_lt_of_cell? _ _ hc)]; exact hc⟩
theorem RdB.below (h : RdB w A zs) (hb : Below w.heap.size w w') : RdB w' A zs := (h.toC.below hb).toB
theorem RdC.cast (h : RdC w A cs) (hc : ∀ b o v, w.cell? ⟨b, o, none⟩ = some v → w'.cell? ⟨b, o, none⟩ = some v) : RdC w' A cs := by
  intro k v hv
  obtain ⟨b, off, e, h1⟩ := h k v hv
  exact ⟨b, off, e, hc _ _ _ h1⟩
theorem RdB.cast (h : RdB w A zs) (hc : ∀ b o v, w.cell? ⟨b, o, none⟩ = some v → w'.cell? ⟨b, o, none⟩ = some v) : RdB w' A zs := (h.toC.cast hc).toB
theorem RdC.drop {b off : Nat} (h : RdC w (some ⟨b, off, none⟩) cs) (m : Nat) : RdC w (some ⟨b, off + m, none⟩) (cs.drop m) := by
  intro k v hv
  rw [List.getElem?_drop] at hv
  obtain ⟨b', off', e, hc⟩ := h _ v hv
  injection e with e
  injection e with e1 e2
  subst e1 e2
  exact ⟨b, off + m, rfl, by rw [Nat.add_assoc]; exact hc⟩
theorem RdB.drop {b off : Nat} (h : RdB w (some ⟨b, off, none⟩) zs) (m : Nat) : RdB w (some ⟨b, off + m, none⟩) (zs.drop m) := by
  have := h.toC.drop m
  rw [← List.map_drop] at this
  exact this.toB
theorem RdC.take (h : RdC w A cs) (m : Nat) : RdC w A (cs.take m) := by
  intro k v hv
  rw [List.getElem?_take] at hv
  split at hv
  · exact h k v hv
  · cases hv
theorem RdB.take (h : RdB w A zs) (m : Nat) : RdB w A (zs.take m) := by
  have := h.toC.take m
  rw [← List.map_take] at this
  exact this.toB
theorem RdC.new {C : Array Value} {T : TypeId} {fz : Nat × Nat} {g : Nat} (hg : g = w.heap.size) (h : ∀ (k : Nat) (v : Value), cs[k]? = some v → C[k]? = some v) : RdC (w.alloc (.cells C T fz)) (some ⟨g, 0, none⟩) cs := by
  subst hg
  intro k v hv
  refine ⟨_, _, rfl, ?_⟩
  rw [Nat.zero_add, World.cell?_alloc_mark]
  exact h k v hv
theorem RdB.new {C : Array Value} {T : TypeId} {fz : Nat × Nat} {g : Nat} (hg : g = w.heap.size) (h : ∀ (k : Nat) (z : Int), zs[k]? = some z → C[k]? = some (Value.int .u8 z)) : RdB (w.alloc (.cells C T fz)) (some ⟨g, 0, none⟩) zs := by
  refine (RdC.new hg fun k v hv => ?_).toB
  rw [List.getElem?_map] at hv
  cases hz : zs[k]? with
  | none => rw [hz] at hv; simp at hv
  | some z => rw [hz] at hv; simp at hv; subst hv; exact h k z hz
theorem RdC.own {base n cap size : Nat} {T : TypeId} (h : w.ownsRow base T size (.slice A n cap) n cs) : RdC w A cs := by
  intro k v hv
  rcases h.2 with ⟨_, h0⟩ | ⟨g, cap', cur, hs, _, hg, _, _, _, ht⟩
  · have := h.1
    have hk := (List.getElem?_eq_some_iff.1 hv).1
    subst h0; simp at this; subst this; simp at hk
  · injection hs with e1 e2 e3
    subst e1
    refine ⟨g, 0, rfl, ?_⟩
    have := h.cells (g := g) rfl k v hv
    rwa [add_plain] at this
end
def cellsB (zs : List Int) : Array Value := (zs.map (Value.int .u8)).toArray
theorem cellsB_at {zs : List Int} (k : Nat) (z : Int) (h : zs[k]? = some z) : (cellsB zs)[k]? = some (Value.int .u8 z) := by
  simp [cellsB, h]
def OwnB (W : World) (g : Nat) (zs : List Int) : Prop := W.heap[g]? = some (.cells (cellsB zs) 5 (0, 0))
section
variable {W W' : World} {g : Nat} {zs : List Int}
theorem OwnB.lt (h : OwnB W g zs) : g < W.heap.size := by
  rcases Nat.lt_or_ge g W.heap.size with hlt | hge
  · exact hlt
  · unfold OwnB at h; rw [Array.getElem?_eq_none hge] at h; cases h
theorem OwnB.at_ (h : OwnB W g zs) (k : Nat) (z : Int) (hz : zs[k]? = some z) : W.cell? ⟨g, k, none⟩ = some (.int .u8 z) := by
  unfold OwnB at h; simp [World.cell?, h, cellsB_at k z hz]
theorem OwnB.rd (h : OwnB W g zs) : RdB W (some ⟨g, 0, none⟩) zs := fun k z hz => ⟨_, _, rfl, by rw [Nat.zero_add]; exact h.at_ k z hz⟩
theorem OwnB.frozen (h : OwnB W g zs) (k : Nat) : W.frozen? ⟨g, k, none⟩ = false := by
  unfold OwnB at h; simp [World.frozen?, h]
theorem OwnB.set (h : OwnB W g zs) (k : Nat) (v : Int) : OwnB (W.setCell ⟨g, k, none⟩ (.int .u8 v)) g (zs.set k v) := by
  unfold OwnB at h ⊢
  simp [World.setCell, Array.getElem?_modify, h, cellsB, List.map_set]
theorem OwnB.below (h : OwnB W g zs) (hb : Below W.heap.size W W') : OwnB W' g zs := (hb.block g h.lt).trans h
end
theorem OwnB.new (w : World) (zs : List Int) : OwnB (w.alloc (.cells (cellsB zs) 5)) w.heap.size zs := heap_alloc_new w _
theorem byte_info : (Try.prog.info? 5).map (fun i => (i.zero, i.size, i.bytes)) = some (some (.int .u8 0), 1, 1) := by kernel_rfl
theorem run_string_rd (W : World) (A : Option Addr) (n c : Nat) (zs : List Int) (hl : zs.length = n) (h : RdB W A zs) :
    (convert 96 9 (.slice A n c)).run Try.prog W = .ok (.string (strOfNums zs)) W := by
  cases A with
  | none =>
    have := h.none_; subst this
    have := run_convert_bytes_nil (P := Try.prog) W 96 5 Try.underlying96 Try.underlying5 n c 9 Try.underlying9
    rw [this]; rfl
  | some a =>
    by_cases h0 : zs = []
    · subst h0
      simp at hl; subst hl
      rw [run_convert_bytes_string W 96 9 5 _ 0 c Try.underlying96 Try.underlying5 Try.underlying9]
      simp [Conv.bytesToString, loadCells]; rfl
    · obtain ⟨b, off, e, hc⟩ := h.addr (List.length_pos_iff.2 h0)
      injection e with e
      subst e
      exact run_convert_bytes_arg (P := Try.prog) W 96 5 Try.underlying96 Try.underlying5 b off n c zs hl (fun i hi => hc i (by omega)) 9 Try.underlying9
/-- The conversion of a text that is known, in a world that is known. -/
structure Bytes (w : World) (s : ByteArray) (cap : Nat) (W : World) : Prop where
  run : (convert 9 96 (.string s)).run Try.prog w = .ok (.slice (some ⟨w.heap.size, 0, none⟩) s.size cap) W
  le : s.size ≤ cap
  max : cap ≤ 9223372036854775807
  rd : RdB W (some ⟨w.heap.size, 0, none⟩) (byt s)
  below : Below w.heap.size w W
theorem bytes_of (s : ByteArray) (hs : s.size ≤ 1000000000) (w : World) : ∃ cap W, Bytes w s cap W := by
  refine ⟨_, _, Lib.run_convert_string_bytes (P := Try.prog) w 9 96 5 s Try.underlying9 Try.underlying96 Try.underlying5, grownCap_ge w _ _ _, ?_, ?_, ?_⟩
  · have := grownCap_le_maxLen w s.size 0 5 (by unfold maxLen; omega)
    unfold maxLen at this; omega
  · intro k z hz
    refine ⟨_, _, rfl, ?_⟩
    rw [Nat.zero_add]
    have hk : k < s.size := by have := (List.getElem?_eq_some_iff.1 hz).1; rwa [byt_len] at this
    rw [Lib.bytesWorld_cell w 5 s k hk]
    rw [byt_at s k hk] at hz
    injection hz with hz
    rw [← hz]
    have : s.data.toList.getD k 0 = s[k] := by
      simp [List.getD, hk]; rfl
    rw [this]
  · exact ⟨rfl, rfl, rfl, by rw [Lib.bytesWorld_size]; omega, fun k hk => Lib.bytesWorld_at_old w 5 s k hk⟩
/-- An append whose run is known. -/
theorem wpList_append_known {P : Program} {w : World} {ops : Array Oper} {rest : List Oper} {o : Oper} {a : Act} {Q : Exit → Act → World → Prop} (hgd : o.guard = none) (s x : Operand) (t : TypeId)
    (ho : o.op = .call { callee := .builtin .append, args := #[s, x], argTypes := #[t, t] }) (v1 v2 v' : Value) (w' : World) (hs : a.eval s = v1) (hx : a.eval x = v2)
    (hrun : (Builtin.append_ #[t, t] o.type #[v1, v2]).run P w = .ok v' w') (h : wpList P ops Q rest (a.put o.dst v') w') : wpList P ops Q (o :: rest) a w :=
  wpList_plain hgd fun _ hK => by
    unfold Oper.wp execOp
    simp only [ho, resolve, invoke, builtin, Sem.run_bind, Sem.run_pure, Result.andThen_ok, List.map_toArray, List.map_cons, List.map_nil, hs, hx, hrun]
    exact hK _ _ h
/-- A row of our own, whatever its element type (e: its number; t: the slice's), and cells that are read put behind it. -/
theorem run_append_rows {t e : TypeId} {z : Value} {size bytes : Nat} (ht : Try.prog.underlying t = some (.slice e)) (hinfo : (Try.prog.info? e).map (fun i => (i.zero, i.size, i.bytes)) = some (some z, size, bytes))
    (hzs : z.cells.size = size) (hsz : 0 < size) (hby : bytes ≤ 1000) (w : World) (base : Nat) (v : Value) (n : Nat) (xs : List Value) (hown : w.ownsRow base e size v n xs) (hbase : base ≤ w.heap.size)
    (A : Option Addr) (m c : Nat) (ys : List Value) (hm : ys.length = m * size) (hr : RdC w A ys) (h1 : ∀ u ∈ ys, u.oneCell' = true) (hnm : n + m ≤ 1000000000) :
    ∃ v' w', (Builtin.append_ #[t, t] t #[v, .slice A m c]).run Try.prog w = .ok v' w' ∧ w'.ownsRow base e size v' (n + m) (xs ++ ys) ∧ w.grownBy w' v.ownBlock ∧
      (v'.ownBlock = v.ownBlock ∨ v'.ownBlock = some w.heap.size) := by
  obtain ⟨i, hi, hz, h2, h3⟩ := info_parts hinfo
  cases A with
  | none =>
    have h0 := hr.none_
    subst h0
    obtain rfl : m = 0 := by
      rcases Nat.eq_zero_or_pos m with h | h
      · exact h
      · have := Nat.mul_pos h hsz; simp at hm; omega
    refine ⟨v, w, ?_, by simpa using hown, World.grownBy.refl w _, .inl rfl⟩
    rcases hown.2 with ⟨rfl, rfl⟩ | ⟨g, cap, cur, rfl, _, _, hnc, _⟩
    · simp [Builtin.append_, run_underlying ht, sizeOf, typeInfo, hi, Builtin.lenOf, Builtin.firstCells]
    · simp [Builtin.append_, run_underlying ht, sizeOf, typeInfo, hi, Builtin.lenOf, Builtin.firstCells, hnc, storeCells]
  | some ad =>
    have hbb : (n + m) * bytes ≤ 140737488355328 := by
      have := Nat.mul_le_mul hnm hby
      omega
    obtain ⟨v', w', hrun, ho, hg, _, hv⟩ := run_append_own_at (P := Try.prog) w base t t e i _ size bytes ht hi hz h2 h3 hzs hsz v n _ hown ad m c ys hm (by
      intro j u hu
      obtain ⟨b, off, e, hc⟩ := hr j u hu
      injection e with e
      subst e
      rw [add_plain]
      exact hc) h1 (by unfold maxLen; omega) hbb hbase
    exact ⟨v', w', hrun, ho, hg, hv⟩
theorem own_nil (w : World) (base size : Nat) (e : TypeId) : w.ownsRow base e size (.slice none 0 0) 0 [] := ⟨by simp, .inl ⟨rfl, rfl⟩⟩
theorem own_form {w : World} {base n size : Nat} {e : TypeId} {v : Value} {xs : List Value} (h : w.ownsRow base e size v n xs) : ∃ A cap, v = .slice A n cap ∧ n ≤ cap ∧ cap ≤ 9223372036854775807 ∧ (A = none → cap = 0) := by
  rcases h.2 with ⟨rfl, rfl⟩ | ⟨g, cap, cur, rfl, _, _, hnc, hm, _⟩
  · exact ⟨_, _, rfl, Nat.le_refl _, by omega, fun _ => rfl⟩
  · exact ⟨_, _, rfl, hnc, by unfold maxLen at hm; omega, fun h => by cases h⟩
theorem own_base {w : World} {base n size : Nat} {e : TypeId} {v : Value} {xs : List Value} (h : w.ownsRow base e size v n xs) : ∀ k, v.ownBlock = some k → base ≤ k := by
  intro k hk
  rcases h.2 with ⟨rfl, rfl⟩ | ⟨g, cap, cur, rfl, hb, _⟩
  · cases hk
  · simp [Value.ownBlock] at hk; omega
theorem own_alloc {w : World} {base n size : Nat} {e : TypeId} {v : Value} {xs : List Value} (h : w.ownsRow base e size v n xs) (o : Obj) : (w.alloc o).ownsRow base e size v n xs := by
  refine ⟨h.1, ?_⟩
  rcases h.2 with h0 | ⟨g, cap, cur, hv, hb, hg, hr⟩
  · exact .inl h0
  · have hlt : g < w.heap.size := by
      rcases Nat.lt_or_ge g w.heap.size with hlt | hge
      · exact hlt
      · rw [Array.getElem?_eq_none hge] at hg; cases hg
    exact .inr ⟨g, cap, cur, hv, hb, (Below.heap_alloc w o g hlt).trans hg, hr⟩
theorem own_lt {w : World} {base n size : Nat} {e : TypeId} {v : Value} {xs : List Value} (h : w.ownsRow base e size v n xs) : ∀ k, v.ownBlock = some k → k < w.heap.size := by
  intro k hk
  rcases h.2 with ⟨rfl, rfl⟩ | ⟨g, cap, cur, rfl, hb, hg, _⟩
  · cases hk
  · simp [Value.ownBlock] at hk
    subst hk
    rcases Nat.lt_or_ge g w.heap.size with hlt | hge
    · exact hlt
    · rw [Array.getElem?_eq_none hge] at hg; cases hg
theorem own_below {w w' : World} {base n size : Nat} {e : TypeId} {v : Value} {xs : List Value} (h : w.ownsRow base e size v n xs) (hb : Below w.heap.size w w') : w'.ownsRow base e size v n xs := by
  refine ⟨h.1, ?_⟩
  rcases h.2 with h0 | ⟨g, cap, cur, rfl, hbs, hg, hr⟩
  · exact .inl h0
  · have hlt := own_lt h g rfl
    exact .inr ⟨g, cap, cur, rfl, hbs, (hb.block g hlt).trans hg, hr⟩
theorem own_setCell {w : World} {base n size : Nat} {e : TypeId} {v : Value} {xs : List Value} (h : w.ownsRow base e size v n xs) (p : Addr) (u : Value) (hp : ∀ k, v.ownBlock = some k → k ≠ p.block) : (w.setCell p u).ownsRow base e size v n xs := by
  refine ⟨h.1, ?_⟩
  rcases h.2 with h0 | ⟨g, cap, cur, rfl, hbs, hg, hr⟩
  · exact .inl h0
  · exact .inr ⟨g, cap, cur, rfl, hbs, (Below.heap_setCell w p u g (hp g rfl)).trans hg, hr⟩
theorem run_append_bytes (w : World) (base : Nat) (v : Value) (n : Nat) (zs : List Int) (hown : w.ownsRow base 5 1 v n (zs.map (Value.int .u8))) (hbase : base ≤ w.heap.size)
    (A : Option Addr) (m c : Nat) (ys : List Int) (hm : ys.length = m) (hr : RdB w A ys) (hsz : n + m ≤ 1000000000) :
    ∃ v' w', (Builtin.append_ #[96, 96] 96 #[v, .slice A m c]).run Try.prog w = .ok v' w' ∧ w'.ownsRow base 5 1 v' (n + m) ((zs ++ ys).map (Value.int .u8)) ∧ w.grownBy w' v.ownBlock ∧
      (v'.ownBlock = v.ownBlock ∨ v'.ownBlock = some w.heap.size) := by
  rw [List.map_append]
  exact run_append_rows Try.underlying96 byte_info rfl (by omega) (by omega) w base v n _ hown hbase A m c (ys.map (Value.int .u8)) (by simp [hm]) hr.toC (by intro u hu; simp at hu; obtain ⟨y, _, rfl⟩ := hu; rfl) hsz
/-- The call answers a list of bytes, zs, in memory of its own. -/
def NewB (w : World) (zs : List Int) (e : Ending) (w' : World) : Prop :=
  ∃ A n cap, e = .returned (.slice A n cap) ∧ zs.length = n ∧ n ≤ cap ∧ cap ≤ 9223372036854775807 ∧ (A = none → cap = 0) ∧ RdB w' A zs ∧ Below w.heap.size w w'
def surr (r : Int) : Bool := decide (55296 ≤ r) && decide (r ≤ 57343)
def prt (r : Int) : Bool :=
  if r = 9 ∨ r = 10 ∨ r = 13 ∨ r = 133 then true else
  if r < 32 ∨ (127 ≤ r ∧ r ≤ 159) then false else
  if r = 65279 ∨ r = 65534 ∨ r = 65535 then false else
  decide (r ≤ 1114111) && !surr r
def dgt (c : Int) : Bool := decide (48 ≤ c) && decide (c ≤ 57)
def nmb (c : Int) : Bool := (decide (65 ≤ c) && decide (c ≤ 90)) || (decide (97 ≤ c) && decide (c ≤ 122)) || dgt c || c == 45 || c == 95
def ldR (c : Int) : Int := if c < 128 then c else if c < 192 then 0 else if c < 224 then c - 192 else if c < 240 then c - 224 else if c < 248 then c - 240 else 0
def ldN (c : Int) : Int := if c < 128 then 1 else if c < 192 then 0 else if c < 224 then 2 else if c < 240 then 3 else if c < 248 then 4 else 0
def ldL (c : Int) : Int := if c < 128 then 0 else if c < 192 then 0 else if c < 224 then 128 else if c < 240 then 2048 else if c < 248 then 65536 else 0
def cont (c : Int) : Bool := decide (128 ≤ c) && decide (c < 192)
theorem and_all : ∀ c : Fin 256,
    (bits .and .u8 (c.val : Int) 128 == 0) = decide ((c.val : Int) < 128) ∧
    (bits .and .u8 (c.val : Int) 224 == 192) = (decide (192 ≤ (c.val : Int)) && decide ((c.val : Int) < 224)) ∧
    (bits .and .u8 (c.val : Int) 240 == 224) = (decide (224 ≤ (c.val : Int)) && decide ((c.val : Int) < 240)) ∧
    (bits .and .u8 (c.val : Int) 248 == 240) = (decide (240 ≤ (c.val : Int)) && decide ((c.val : Int) < 248)) ∧
    (bits .and .u8 (c.val : Int) 192 == 128) = (decide (128 ≤ (c.val : Int)) && decide ((c.val : Int) < 192)) := by decide +kernel
theorem and_at (c : Int) (h0 : 0 ≤ c) (h1 : c < 256) :
    (bits .and .u8 c 128 == 0) = decide (c < 128) ∧
    (bits .and .u8 c 224 == 192) = (decide (192 ≤ c) && decide (c < 224)) ∧
    (bits .and .u8 c 240 == 224) = (decide (224 ≤ c) && decide (c < 240)) ∧
    (bits .and .u8 c 248 == 240) = (decide (240 ≤ c) && decide (c < 248)) ∧
    (bits .and .u8 c 192 == 128) = (decide (128 ≤ c) && decide (c < 192)) := by
  have h := and_all ⟨c.toNat, by omega⟩
  have e : ((c.toNat : Nat) : Int) = c := by omega
  simpa only [e] using h
theorem and_cont (c : Int) (h0 : 0 ≤ c) (h1 : c < 256) : (bits .and .u8 c 192 == 128) = cont c := (and_at c h0 h1).2.2.2.2
/-- The rest of a rune, byte by byte. -/
def accR : Int → List Int → Option Int
  | r, [] => some r
  | r, c :: l => if cont c then accR (r * 64 + c % 64) l else none
def runeF : List Int → Int × Int × Bool
  | [] => (0, 0, false)
  | c :: t =>
    if ldN c = 0 ∨ ((c :: t).length : Int) < ldN c then (0, 1, false) else
    match accR (ldR c) (t.take (ldN c - 1).toNat) with
    | none => (0, 1, false)
    | some r => if r < ldL c ∨ 1114111 < r ∨ surr r = true then (0, 1, false) else (r, ldN c, true)
theorem accR_snoc (l : List Int) (c : Int) : ∀ r, accR r (l ++ [c]) = match accR r l with | none => none | some q => if cont c then some (q * 64 + c % 64) else none := by
  induction l with
  | nil => intro r; simp only [List.nil_append, accR]
  | cons a l ih => intro r; simp only [List.cons_append, accR]; split <;> simp [ih]
theorem accR_none (l m : List Int) : ∀ r, accR r l = none → accR r (l ++ m) = none := by
  induction l with
  | nil => intro r h; simp [accR] at h
  | cons a l ih => intro r h; simp only [List.cons_append, accR] at h ⊢; split <;> simp_all
theorem accR_bd (l : List Int) : ∀ r q, 0 ≤ r → accR r l = some q → 0 ≤ q ∧ q < (r + 1) * 64 ^ l.length := by
  induction l with
  | nil => intro r q h0 h; simp only [accR, Option.some.injEq] at h; subst h; simp; omega
  | cons a l ih =>
    intro r q h0 h
    simp only [accR] at h
    split at h
    · obtain ⟨h1, h2⟩ := ih _ _ (by omega) h
      refine ⟨h1, ?_⟩
      have e : (r * 64 + a % 64 + 1) * 64 ^ l.length ≤ ((r + 1) * 64) * 64 ^ l.length := Int.mul_le_mul_of_nonneg_right (by omega) (Int.pow_nonneg (by omega))
      have e2 : (r + 1) * 64 ^ (a :: l).length = ((r + 1) * 64) * 64 ^ l.length := by rw [List.length_cons, Int.pow_succ']; rw [Int.mul_assoc]
      omega
    · cases h
theorem accR_lo (l : List Int) : ∀ r q, accR r l = some q → r * 64 ^ l.length ≤ q := by
  induction l with
  | nil => intro r q h; simp only [accR, Option.some.injEq] at h; subst h; simp
  | cons a l ih =>
    intro r q h
    simp only [accR] at h
    split at h
    · have h1 := ih _ _ h
      have e : (r * 64) * 64 ^ l.length ≤ (r * 64 + a % 64) * 64 ^ l.length := Int.mul_le_mul_of_nonneg_right (by omega) (Int.pow_nonneg (by omega))
      have e2 : r * 64 ^ (a :: l).length = (r * 64) * 64 ^ l.length := by rw [List.length_cons, Int.pow_succ']; rw [Int.mul_assoc]
      omega
    · cases h
theorem ldN_cases (c : Int) : ldN c = 0 ∨ ldN c = 1 ∨ ldN c = 2 ∨ ldN c = 3 ∨ ldN c = 4 := by unfold ldN; split <;> (try split) <;> (try split) <;> (try split) <;> (try split) <;> simp
theorem ldR_bd (c : Int) (h0 : 0 ≤ c) : 0 ≤ ldR c ∧ ldR c < 128 ∧ (ldN c = 2 → ldR c < 32) ∧ (ldN c = 3 → ldR c < 16) ∧ (ldN c = 4 → ldR c < 8) := by
  unfold ldR ldN; split <;> (try split) <;> (try split) <;> (try split) <;> (try split) <;> omega
/-- While bytes are still to come the rune has room for them. -/
theorem acc_room (c : Int) (h0 : 0 ≤ c) (l : List Int) (q : Int) (h : accR (ldR c) l = some q) (hl : (l.length : Int) + 1 < ldN c) : 0 ≤ q ∧ q < 32768 := by
  obtain ⟨h1, h2⟩ := accR_bd l _ _ (ldR_bd c h0).1 h
  have hb := ldR_bd c h0
  refine ⟨h1, ?_⟩
  rcases ldN_cases c with e | e | e | e | e <;> rw [e] at hl
  · omega
  · omega
  · have : l.length = 0 := by omega
    rw [this] at h2; simp at h2; omega
  · have : l.length = 0 ∨ l.length = 1 := by omega
    rcases this with k | k <;> rw [k] at h2 <;> simp at h2 <;> omega
  · have : l.length = 0 ∨ l.length = 1 ∨ l.length = 2 := by omega
    rcases this with k | k | k <;> rw [k] at h2 <;> simp at h2 <;> omega
theorem acc_bd (c : Int) (h0 : 0 ≤ c) (l : List Int) (q : Int) (h : accR (ldR c) l = some q) (hl : (l.length : Int) < ldN c) : 0 ≤ q ∧ q < 2097152 := by
  obtain ⟨h1, h2⟩ := accR_bd l _ _ (ldR_bd c h0).1 h
  have hb := ldR_bd c h0
  refine ⟨h1, ?_⟩
  rcases ldN_cases c with e | e | e | e | e <;> rw [e] at hl
  · omega
  · have : l.length = 0 := by omega
    rw [this] at h2; simp at h2; omega
  · have : l.length = 0 ∨ l.length = 1 := by omega
    rcases this with k | k <;> rw [k] at h2 <;> simp at h2 <;> omega
  · have : l.length = 0 ∨ l.length = 1 ∨ l.length = 2 := by omega
    rcases this with k | k | k <;> rw [k] at h2 <;> simp at h2 <;> omega
  · have : l.length = 0 ∨ l.length = 1 ∨ l.length = 2 ∨ l.length = 3 := by omega
    rcases this with k | k | k | k <;> rw [k] at h2 <;> simp at h2 <;> omega
theorem RdB.cons {w : World} {A : Option Addr} {c : Int} {t : List Int} (h : RdB w A (c :: t)) :
    ∃ b off, A = some ⟨b, off, none⟩ ∧ ∀ k z, (c :: t)[k]? = some z → w.cell? ⟨b, off + k, none⟩ = some (.int .u8 z) := by
  obtain ⟨b, off, rfl, _⟩ := h 0 c rfl
  refine ⟨b, off, rfl, fun k z hz => ?_⟩
  obtain ⟨b', off', e, hc⟩ := h k z hz
  injection e with e
  injection e with e1 e2
  subst e1 e2
  exact hc
theorem runeF_short (c : Int) (t : List Int) (h : ldN c = 0 ∨ ((c :: t).length : Int) < ldN c) : runeF (c :: t) = (0, 1, false) := by
  simp only [runeF]; rw [if_pos h]
theorem runeF_none (c : Int) (t : List Int) (h1 : 1 ≤ ldN c) (h2 : ldN c ≤ ((c :: t).length : Int)) (h : accR (ldR c) (t.take (ldN c - 1).toNat) = none) : runeF (c :: t) = (0, 1, false) := by
  simp only [runeF]; rw [if_neg (by omega), h]
theorem runeF_bad (c : Int) (t : List Int) (h1 : 1 ≤ ldN c) (h2 : ldN c ≤ ((c :: t).length : Int)) (r : Int) (h : accR (ldR c) (t.take (ldN c - 1).toNat) = some r) (hb : r < ldL c ∨ 1114111 < r ∨ surr r = true) : runeF (c :: t) = (0, 1, false) := by
  simp only [runeF]; rw [if_neg (by omega), h]; simp only []; rw [if_pos hb]
theorem runeF_good (c : Int) (t : List Int) (h1 : 1 ≤ ldN c) (h2 : ldN c ≤ ((c :: t).length : Int)) (r : Int) (h : accR (ldR c) (t.take (ldN c - 1).toNat) = some r) (hb : ¬ (r < ldL c ∨ 1114111 < r ∨ surr r = true)) : runeF (c :: t) = (r, ldN c, true) := by
  simp only [runeF]; rw [if_neg (by omega), h]; simp only []; rw [if_neg hb]
def retRune (p : Int × Int × Bool) : Ending := .returned (.tuple #[.int .i32 p.1, .int .i64 p.2.1, .bool p.2.2])
theorem acc_step (c0 : Int) (h0 : 0 ≤ c0) (t : List Int) (k : Nat) (z R : Int) (hz : t[k]? = some z) (hR : accR (ldR c0) (t.take k) = some R) :
    accR (ldR c0) (t.take (k + 1)) = if cont z then some (R * 64 + z % 64) else none := by
  rw [List.take_add_one, hz]
  simp only [Option.toList_some, accR_snoc, hR]
theorem acc_stop (c0 : Int) (t : List Int) (k m : Nat) (hk : k ≤ m) (h : accR (ldR c0) (t.take k) = none) : accR (ldR c0) (t.take m) = none := by
  have e : t.take m = t.take k ++ (t.drop k).take (m - k) := by
    rw [show m = k + (m - k) by omega, List.take_add]; simp
  rw [e]; exact accR_none _ _ _ h
theorem runeF_n (zs : List Int) (h : zs ≠ []) : 1 ≤ (runeF zs).2.1 ∧ (runeF zs).2.1 ≤ zs.length ∧ (runeF zs).2.1 ≤ 4 := by
  cases zs with
  | nil => exact absurd rfl h
  | cons c t =>
    have h4 : ldN c ≤ 4 := by rcases ldN_cases c with e | e | e | e | e <;> omega
    have h0 : ldN c ≠ 0 → 1 ≤ ldN c := by rcases ldN_cases c with e | e | e | e | e <;> omega
    simp only [runeF]
    split
    · simp; omega
    · rename_i hs
      split
      · simp; omega
      · split
        · simp; omega
        · refine ⟨?_, ?_, ?_⟩ <;> simp only [] <;> omega
theorem runeF_ascii (c : Int) (t : List Int) (h0 : 0 ≤ c) (h : c < 128) : runeF (c :: t) = (c, 1, true) := by
  have hN : ldN c = 1 := by unfold ldN; rw [if_pos h]
  have := runeF_good c t (by omega) (by simp; omega) c (by rw [hN]; simp [accR, ldR, h]) (by
    have hL : ldL c = 0 := by unfold ldL; rw [if_pos h]
    have hs : surr c = false := by unfold surr; rw [decide_eq_false (by omega)]; rfl
    rw [hL, hs]; simp; omega)
  rw [this, hN]
set_option maxHeartbeats 1000000 in
theorem refPrt_any (r : Int) (w : World) :
    Calls Try.prog 84 #[.int .i32 r] w fun e w' => e = .returned (.bool (prt r)) ∧ w = w' := by
  by_cases h4 : r = 9 ∨ r = 10 ∨ r = 13 ∨ r = 133
  · have hp : prt r = true := by unfold prt; rw [if_pos h4]
    rw [hp]; clear hp
    rcases h4 with rfl | rfl | rfl | rfl
    all_goals
      go_enter Try.func84, Try.ntmps84
      go_wp2
      go_ret
      exact ⟨rfl, rfl⟩
  · have e9 : (r == 9) = false := beq_eq_false_iff_ne.2 (by omega)
    have e10 : (r == 10) = false := beq_eq_false_iff_ne.2 (by omega)
    have e13 : (r == 13) = false := beq_eq_false_iff_ne.2 (by omega)
    have e133 : (r == 133) = false := beq_eq_false_iff_ne.2 (by omega)
    by_cases h3 : r = 65279 ∨ r = 65534 ∨ r = 65535
    · have hp : prt r = false := by unfold prt; rw [if_neg h4, if_neg (by omega), if_pos h3]
      rw [hp]; clear hp h4 e9 e10 e13 e133
      rcases h3 with rfl | rfl | rfl
      all_goals
        go_enter Try.func84, Try.ntmps84
        go_wp2
        go_ret
        exact ⟨rfl, rfl⟩
    · have f1 : (r == 65279) = false := beq_eq_false_iff_ne.2 (by omega)
      have f2 : (r == 65534) = false := beq_eq_false_iff_ne.2 (by omega)
      have f3 : (r == 65535) = false := beq_eq_false_iff_ne.2 (by omega)
      have hp : prt r = (!(decide (r < 32) || (decide (127 ≤ r) && decide (r ≤ 159))) && (decide (r ≤ 1114111) && !surr r)) := by
        unfold prt; rw [if_neg h4, if_neg h3]
        by_cases hq : r < 32 ∨ (127 ≤ r ∧ r ≤ 159)
        · rw [if_pos hq]; simp; omega
        · rw [if_neg hq]
          have : (decide (r < 32) || (decide (127 ≤ r) && decide (r ≤ 159))) = false := by simp; omega
          rw [this]; rfl
      have HP := Lib.hid hp
      clear hp h4 h3
      go_enter Try.func84, Try.ntmps84
      go_wp2
      all_goals
        go_ret
        refine ⟨ret_bool (bool_iff ?_), rfl⟩
        rw [HP.out]
        simp only [surr]
        simp_all
        try omega
theorem ldR_mod (c : Int) (h1 : 194 ≤ c) (h2 : c ≤ 244) : (c ≤ 223 → ldR c = c % 32 ∧ ldN c = 2 ∧ ldL c = 128) ∧ (224 ≤ c → c ≤ 239 → ldR c = c % 16 ∧ ldN c = 3 ∧ ldL c = 2048) ∧ (240 ≤ c → ldR c = c % 8 ∧ ldN c = 4 ∧ ldL c = 65536) := by
  unfold ldR ldN ldL
  repeat' split
  all_goals omega
/-- What a rune does not begin with. -/
theorem runeF_off (c : Int) (t : List Int) (h : (128 ≤ c ∧ c < 194) ∨ (244 < c ∧ c < 256)) : runeF (c :: t) = (0, 1, false) := by
  by_cases hs : ldN c = 0 ∨ ((c :: t).length : Int) < ldN c
  · exact runeF_short c t hs
  · have hl : 1 ≤ ldN c := by rcases ldN_cases c with e | e | e | e | e <;> omega
    cases ha : accR (ldR c) (t.take (ldN c - 1).toNat) with
    | none => exact runeF_none c t hl (by omega) ha
    | some r =>
      refine runeF_bad c t hl (by omega) r ha ?_
      have hlen : (t.take (ldN c - 1).toNat).length = (ldN c - 1).toNat := by
        rw [List.length_take]; simp at hs; omega
      have hlo := accR_lo _ _ _ ha
      have hup := (accR_bd _ _ _ (ldR_bd c (by omega)).1 ha).2
      rw [hlen] at hlo hup
      have hc : (ldN c = 2 ∧ ldL c = 128 ∧ ldR c ≤ 1) ∨ (ldN c = 4 ∧ 5 ≤ ldR c) := by
        revert hs hl
        unfold ldN ldL ldR
        repeat' split
        all_goals omega
      rcases hc with ⟨e1, e2, e3⟩ | ⟨e1, e3⟩
      · rw [e1] at hup
        left; rw [e2]
        have : ((2 : Int) - 1).toNat = 1 := rfl
        rw [this] at hup
        simp at hup; omega
      · rw [e1] at hlo
        right; left
        have : ((4 : Int) - 1).toNat = 3 := rfl
        rw [this] at hlo
        simp at hlo; omega
set_option maxHeartbeats 2000000 in
theorem refRune_2 (b off : Nat) (c : Int) (t : List Int) (n cap : Nat) (w : World) (h0 : 194 ≤ c) (h1 : c ≤ 223) (hb : Byte t) (hn : n = t.length + 1) (hnc : n ≤ cap) (hm : cap ≤ 9223372036854775807)
    (hc : ∀ k z, (c :: t)[k]? = some z → w.cell? ⟨b, off + k, none⟩ = some (.int .u8 z)) :
    Calls Try.prog 83 #[.slice (some ⟨b, off, none⟩) n cap] w fun e w' => e = retRune (runeF (c :: t)) ∧ w = w' := by
  have hld : ldR c = c % 32 ∧ ldN c = 2 ∧ ldL c = 128 := (ldR_mod c (by omega) (by omega)).1 (by omega)
  have hcell : w.cell? ⟨b, off, none⟩ = some (.int .u8 c) := hc 0 c rfl
  have d : (0 : Int) < (n : Int) := by omega
  have d0 : ((n : Int) == 0) = false := beq_eq_false_iff_ne.2 (by omega)
  have hlen : ((c :: t).length : Int) = n := by simp; omega
  by_cases hsh : n < 2
  · have hrf := runeF_short c t (by rw [hlen]; omega)
    rw [hrf]
    have dd : (n : Int) < 2 := by omega
    clear hc hrf hlen hld hn hb
    go_enter Try.func83, Try.ntmps83
    go_wp2
    go_ret3
    exact ⟨rfl, rfl⟩
  · have rn := runeF_none c t (by omega) (by omega)
    have rb := runeF_bad c t (by omega) (by omega)
    have rg := runeF_good c t (by omega) (by omega)
    have h00 : 0 ≤ c := by omega
    have hstep := fun k z R => acc_step c h00 t k z R
    have hstop := fun k m => acc_stop c t k m
    have hroom := fun l q => acc_room c h00 l q
    have hbd := fun l q => acc_bd c h00 l q
    simp only [hld.1, hld.2.1, hld.2.2] at rn rb rg hstep hstop hroom hbd
    have RN := Lib.hid rn
    have RB := Lib.hid rb
    have RG := Lib.hid rg
    have ST := Lib.hid hstep
    have SP := Lib.hid hstop
    have RM := Lib.hid hroom
    have BD := Lib.hid hbd
    have HC := Lib.hid hc
    have HB := Lib.hid hb
    have dd : (2 : Int) ≤ (n : Int) := by omega
    have hmt : 2 - 1 ≤ t.length := by omega
    have hn1 : t.length + 1 ≤ n := by omega
    clear rn rb rg hstep hstop hroom hbd hc hb hlen hld hn
    go_enter Try.func83, Try.ntmps83
    go_wp2
    go_loop [2, 3, 8, 9] (fun r1 n1 r i => ∃ (k : Nat) (R : Int), k + 1 ≤ 2 ∧ i = .int .i64 ((k : Int) + 1) ∧ r = .int .i32 R ∧ r1 = .int .i32 0 ∧ n1 = .int .i64 0 ∧ Hid (accR (c % 32) (t.take k) = some R)) (fun _ _ _ i => 2 - (intOf i).toNat)
    case atStart => exact ⟨0, c % 32, by omega, rfl, rfl, rfl, rfl, rfl⟩
    case round =>
      obtain ⟨k, R, hk, rfl, rfl, rfl, rfl, HA⟩ := hrel
      by_cases hlt : k + 1 < 2
      · have dlt : (k : Int) + 1 < 2 := by omega
        have dln : (k : Int) + 1 < (n : Int) := by omega
        obtain ⟨z, hz⟩ : ∃ z, t[k]? = some z := ⟨t[k]'(by omega), List.getElem?_eq_getElem (by omega)⟩
        have hzb := HB.out z (List.mem_of_getElem? hz)
        have hzb1 := hzb.1
        have hzb2 := hzb.2
        have hcz : w.cell? ⟨b, off + (k + 1), none⟩ = some (.int .u8 z) := HC.out (k + 1) z hz
        have hrm := RM.out (t.take k) R HA.out (by rw [List.length_take]; omega)
        have hr1 := hrm.1
        have hr2 := hrm.2
        have hst := ST.out k z R hz HA.out
        cases hct : cont z
        · have hbz : (bits .and .u8 z 192 != 128) = true := by have := and_cont z hzb1 hzb2; rw [hct] at this; simp only [bne, this]; rfl
          have hrf : runeF (c :: t) = (0, 1, false) := RN.out (SP.out (k + 1) _ (by omega) (by rw [hst, hct]; rfl))
          have HRF := Lib.hid hrf
          clear hrf hst hct hrm hzb hz
          go_wp2
          go_ret3
          exact ⟨by rw [HRF.out]; rfl, rfl⟩
        · have hbz : (bits .and .u8 z 192 != 128) = false := by have := and_cont z hzb1 hzb2; rw [hct] at this; simp only [bne, this]; rfl
          have hac : accR (c % 32) (t.take (k + 1)) = some (R * 64 + z % 64) := by rw [hst, hct]; rfl
          have HAC := Lib.hid hac
          clear hac hst hct hrm hzb hz
          go_wp2
          go_round
          case rel => exact ⟨k + 1, _, by omega, by go_num, rfl, rfl, rfl, HAC⟩
          case measure => simp [intOf]; omega
      · obtain rfl : k = 2 - 1 := by omega
        have hq := BD.out (t.take (2 - 1)) R HA.out (by rw [List.length_take]; omega)
        have hq1 := hq.1
        have hq2 := hq.2
        clear hq
        have hbad := RB.out R HA.out
        have hgood := RG.out R HA.out
        have HBAD := Lib.hid hbad
        have HGOOD := Lib.hid hgood
        clear hbad hgood
        go_wp2
        all_goals go_ret3
        all_goals first
          | exact ⟨by rw [HGOOD.out (by simp [surr]; omega)]; rfl, rfl⟩
          | exact ⟨by rw [HBAD.out (by simp [surr]; omega)]; rfl, rfl⟩
set_option maxHeartbeats 2000000 in
theorem refRune_3 (b off : Nat) (c : Int) (t : List Int) (n cap : Nat) (w : World) (h0 : 224 ≤ c) (h1 : c ≤ 239) (hb : Byte t) (hn : n = t.length + 1) (hnc : n ≤ cap) (hm : cap ≤ 9223372036854775807)
    (hc : ∀ k z, (c :: t)[k]? = some z → w.cell? ⟨b, off + k, none⟩ = some (.int .u8 z)) :
    Calls Try.prog 83 #[.slice (some ⟨b, off, none⟩) n cap] w fun e w' => e = retRune (runeF (c :: t)) ∧ w = w' := by
  have hld : ldR c = c % 16 ∧ ldN c = 3 ∧ ldL c = 2048 := (ldR_mod c (by omega) (by omega)).2.1 (by omega) (by omega)
  have hcell : w.cell? ⟨b, off, none⟩ = some (.int .u8 c) := hc 0 c rfl
  have d : (0 : Int) < (n : Int) := by omega
  have d0 : ((n : Int) == 0) = false := beq_eq_false_iff_ne.2 (by omega)
  have hlen : ((c :: t).length : Int) = n := by simp; omega
  by_cases hsh : n < 3
  · have hrf := runeF_short c t (by rw [hlen]; omega)
    rw [hrf]
    have dd : (n : Int) < 3 := by omega
    clear hc hrf hlen hld hn hb
    go_enter Try.func83, Try.ntmps83
    go_wp2
    go_ret3
    exact ⟨rfl, rfl⟩
  · have rn := runeF_none c t (by omega) (by omega)
    have rb := runeF_bad c t (by omega) (by omega)
    have rg := runeF_good c t (by omega) (by omega)
    have h00 : 0 ≤ c := by omega
    have hstep := fun k z R => acc_step c h00 t k z R
    have hstop := fun k m => acc_stop c t k m
    have hroom := fun l q => acc_room c h00 l q
    have hbd := fun l q => acc_bd c h00 l q
    simp only [hld.1, hld.2.1, hld.2.2] at rn rb rg hstep hstop hroom hbd
    have RN := Lib.hid rn
    have RB := Lib.hid rb
    have RG := Lib.hid rg
    have ST := Lib.hid hstep
    have SP := Lib.hid hstop
    have RM := Lib.hid hroom
    have BD := Lib.hid hbd
    have HC := Lib.hid hc
    have HB := Lib.hid hb
    have dd : (3 : Int) ≤ (n : Int) := by omega
    have hmt : 3 - 1 ≤ t.length := by omega
    have hn1 : t.length + 1 ≤ n := by omega
    clear rn rb rg hstep hstop hroom hbd hc hb hlen hld hn
    go_enter Try.func83, Try.ntmps83
    go_wp2
    go_loop [2, 3, 8, 9] (fun r1 n1 r i => ∃ (k : Nat) (R : Int), k + 1 ≤ 3 ∧ i = .int .i64 ((k : Int) + 1) ∧ r = .int .i32 R ∧ r1 = .int .i32 0 ∧ n1 = .int .i64 0 ∧ Hid (accR (c % 16) (t.take k) = some R)) (fun _ _ _ i => 3 - (intOf i).toNat)
    case atStart => exact ⟨0, c % 16, by omega, rfl, rfl, rfl, rfl, rfl⟩
    case round =>
      obtain ⟨k, R, hk, rfl, rfl, rfl, rfl, HA⟩ := hrel
      by_cases hlt : k + 1 < 3
      · have dlt : (k : Int) + 1 < 3 := by omega
        have dln : (k : Int) + 1 < (n : Int) := by omega
        obtain ⟨z, hz⟩ : ∃ z, t[k]? = some z := ⟨t[k]'(by omega), List.getElem?_eq_getElem (by omega)⟩
        have hzb := HB.out z (List.mem_of_getElem? hz)
        have hzb1 := hzb.1
        have hzb2 := hzb.2
        have hcz : w.cell? ⟨b, off + (k + 1), none⟩ = some (.int .u8 z) := HC.out (k + 1) z hz
        have hrm := RM.out (t.take k) R HA.out (by rw [List.length_take]; omega)
        have hr1 := hrm.1
        have hr2 := hrm.2
        have hst := ST.out k z R hz HA.out
        cases hct : cont z
        · have hbz : (bits .and .u8 z 192 != 128) = true := by have := and_cont z hzb1 hzb2; rw [hct] at this; simp only [bne, this]; rfl
          have hrf : runeF (c :: t) = (0, 1, false) := RN.out (SP.out (k + 1) _ (by omega) (by rw [hst, hct]; rfl))
          have HRF := Lib.hid hrf
          clear hrf hst hct hrm hzb hz
          go_wp2
          go_ret3
          exact ⟨by rw [HRF.out]; rfl, rfl⟩
        · have hbz : (bits .and .u8 z 192 != 128) = false := by have := and_cont z hzb1 hzb2; rw [hct] at this; simp only [bne, this]; rfl
          have hac : accR (c % 16) (t.take (k + 1)) = some (R * 64 + z % 64) := by rw [hst, hct]; rfl
          have HAC := Lib.hid hac
          clear hac hst hct hrm hzb hz
          go_wp2
          go_round
          case rel => exact ⟨k + 1, _, by omega, by go_num, rfl, rfl, rfl, HAC⟩
          case measure => simp [intOf]; omega
      · obtain rfl : k = 3 - 1 := by omega
        have hq := BD.out (t.take (3 - 1)) R HA.out (by rw [List.length_take]; omega)
        have hq1 := hq.1
        have hq2 := hq.2
        clear hq
        have hbad := RB.out R HA.out
        have hgood := RG.out R HA.out
        have HBAD := Lib.hid hbad
        have HGOOD := Lib.hid hgood
        clear hbad hgood
        go_wp2
        all_goals go_ret3
        all_goals first
          | exact ⟨by rw [HGOOD.out (by simp [surr]; omega)]; rfl, rfl⟩
          | exact ⟨by rw [HBAD.out (by simp [surr]; omega)]; rfl, rfl⟩
set_option maxHeartbeats 2000000 in
theorem refRune_4 (b off : Nat) (c : Int) (t : List Int) (n cap : Nat) (w : World) (h0 : 240 ≤ c) (h1 : c ≤ 244) (hb : Byte t) (hn : n = t.length + 1) (hnc : n ≤ cap) (hm : cap ≤ 9223372036854775807)
    (hc : ∀ k z, (c :: t)[k]? = some z → w.cell? ⟨b, off + k, none⟩ = some (.int .u8 z)) :
    Calls Try.prog 83 #[.slice (some ⟨b, off, none⟩) n cap] w fun e w' => e = retRune (runeF (c :: t)) ∧ w = w' := by
  have hld : ldR c = c % 8 ∧ ldN c = 4 ∧ ldL c = 65536 := (ldR_mod c (by omega) (by omega)).2.2 (by omega)
  have hcell : w.cell? ⟨b, off, none⟩ = some (.int .u8 c) := hc 0 c rfl
  have d : (0 : Int) < (n : Int) := by omega
  have d0 : ((n : Int) == 0) = false := beq_eq_false_iff_ne.2 (by omega)
  have hlen : ((c :: t).length : Int) = n := by simp; omega
  by_cases hsh : n < 4
  · have hrf := runeF_short c t (by rw [hlen]; omega)
    rw [hrf]
    have dd : (n : Int) < 4 := by omega
    clear hc hrf hlen hld hn hb
    go_enter Try.func83, Try.ntmps83
    go_wp2
    go_ret3
    exact ⟨rfl, rfl⟩
  · have rn := runeF_none c t (by omega) (by omega)
    have rb := runeF_bad c t (by omega) (by omega)
    have rg := runeF_good c t (by omega) (by omega)
    have h00 : 0 ≤ c := by omega
    have hstep := fun k z R => acc_step c h00 t k z R
    have hstop := fun k m => acc_stop c t k m
    have hroom := fun l q => acc_room c h00 l q
    have hbd := fun l q => acc_bd c h00 l q
    simp only [hld.1, hld.2.1, hld.2.2] at rn rb rg hstep hstop hroom hbd
    have RN := Lib.hid rn
    have RB := Lib.hid rb
    have RG := Lib.hid rg
    have ST := Lib.hid hstep
    have SP := Lib.hid hstop
    have RM := Lib.hid hroom
    have BD := Lib.hid hbd
    have HC := Lib.hid hc
    have HB := Lib.hid hb
    have dd : (4 : Int) ≤ (n : Int) := by omega
    have hmt : 4 - 1 ≤ t.length := by omega
    have hn1 : t.length + 1 ≤ n := by omega
    clear rn rb rg hstep hstop hroom hbd hc hb hlen hld hn
    go_enter Try.func83, Try.ntmps83
    go_wp2
    go_loop [2, 3, 8, 9] (fun r1 n1 r i => ∃ (k : Nat) (R : Int), k + 1 ≤ 4 ∧ i = .int .i64 ((k : Int) + 1) ∧ r = .int .i32 R ∧ r1 = .int .i32 0 ∧ n1 = .int .i64 0 ∧ Hid (accR (c % 8) (t.take k) = some R)) (fun _ _ _ i => 4 - (intOf i).toNat)
    case atStart => exact ⟨0, c % 8, by omega, rfl, rfl, rfl, rfl, rfl⟩
    case round =>
      obtain ⟨k, R, hk, rfl, rfl, rfl, rfl, HA⟩ := hrel
      by_cases hlt : k + 1 < 4
      · have dlt : (k : Int) + 1 < 4 := by omega
        have dln : (k : Int) + 1 < (n : Int) := by omega
        obtain ⟨z, hz⟩ : ∃ z, t[k]? = some z := ⟨t[k]'(by omega), List.getElem?_eq_getElem (by omega)⟩
        have hzb := HB.out z (List.mem_of_getElem? hz)
        have hzb1 := hzb.1
        have hzb2 := hzb.2
        have hcz : w.cell? ⟨b, off + (k + 1), none⟩ = some (.int .u8 z) := HC.out (k + 1) z hz
        have hrm := RM.out (t.take k) R HA.out (by rw [List.length_take]; omega)
        have hr1 := hrm.1
        have hr2 := hrm.2
        have hst := ST.out k z R hz HA.out
        cases hct : cont z
        · have hbz : (bits .and .u8 z 192 != 128) = true := by have := and_cont z hzb1 hzb2; rw [hct] at this; simp only [bne, this]; rfl
          have hrf : runeF (c :: t) = (0, 1, false) := RN.out (SP.out (k + 1) _ (by omega) (by rw [hst, hct]; rfl))
          have HRF := Lib.hid hrf
          clear hrf hst hct hrm hzb hz
          go_wp2
          go_ret3
          exact ⟨by rw [HRF.out]; rfl, rfl⟩
        · have hbz : (bits .and .u8 z 192 != 128) = false := by have := and_cont z hzb1 hzb2; rw [hct] at this; simp only [bne, this]; rfl
          have hac : accR (c % 8) (t.take (k + 1)) = some (R * 64 + z % 64) := by rw [hst, hct]; rfl
          have HAC := Lib.hid hac
          clear hac hst hct hrm hzb hz
          go_wp2
          go_round
          case rel => exact ⟨k + 1, _, by omega, by go_num, rfl, rfl, rfl, HAC⟩
          case measure => simp [intOf]; omega
      · obtain rfl : k = 4 - 1 := by omega
        have hq := BD.out (t.take (4 - 1)) R HA.out (by rw [List.length_take]; omega)
        have hq1 := hq.1
        have hq2 := hq.2
        clear hq
        have hbad := RB.out R HA.out
        have hgood := RG.out R HA.out
        have HBAD := Lib.hid hbad
        have HGOOD := Lib.hid hgood
        clear hbad hgood
        go_wp2
        all_goals go_ret3
        all_goals first
          | exact ⟨by rw [HGOOD.out (by simp [surr]; omega)]; rfl, rfl⟩
          | exact ⟨by rw [HBAD.out (by simp [surr]; omega)]; rfl, rfl⟩
set_option maxHeartbeats 1000000 in
theorem refRune_nil (A : Option Addr) (cap : Nat) (w : World) :
    Calls Try.prog 83 #[.slice A 0 cap] w fun e w' => e = retRune (0, 0, false) ∧ w = w' := by
  go_enter Try.func83, Try.ntmps83
  go_wp2
  go_ret3
  exact ⟨rfl, rfl⟩
set_option maxHeartbeats 1000000 in
theorem refRune_one (b off : Nat) (c : Int) (n cap : Nat) (w : World) (h0 : 0 ≤ c) (h1 : c < 128) (hn : 1 ≤ n) (hc : w.cell? ⟨b, off, none⟩ = some (.int .u8 c)) :
    Calls Try.prog 83 #[.slice (some ⟨b, off, none⟩) n cap] w fun e w' => e = retRune (c, 1, true) ∧ w = w' := by
  have d : (0 : Int) < (n : Int) := by omega
  have d0 : ((n : Int) == 0) = false := beq_eq_false_iff_ne.2 (by omega)
  go_enter Try.func83, Try.ntmps83
  go_wp2
  go_ret3
  exact ⟨rfl, rfl⟩
set_option maxHeartbeats 1000000 in
theorem refRune_off (b off : Nat) (c : Int) (n cap : Nat) (w : World) (h : (128 ≤ c ∧ c < 194) ∨ (244 < c ∧ c < 256)) (hn : 1 ≤ n) (hc : w.cell? ⟨b, off, none⟩ = some (.int .u8 c)) :
    Calls Try.prog 83 #[.slice (some ⟨b, off, none⟩) n cap] w fun e w' => e = retRune (0, 1, false) ∧ w = w' := by
  have d : (0 : Int) < (n : Int) := by omega
  have d0 : ((n : Int) == 0) = false := beq_eq_false_iff_ne.2 (by omega)
  rcases h with ⟨h1, h2⟩ | ⟨h1, h2⟩
  all_goals
    go_enter Try.func83, Try.ntmps83
    go_wp2
    go_ret3
    exact ⟨rfl, rfl⟩
theorem refRune_any (A : Option Addr) (n cap : Nat) (zs : List Int) (w : World) (hl : zs.length = n) (hnc : n ≤ cap) (hm : cap ≤ 9223372036854775807) (hb : Byte zs) (hr : RdB w A zs) :
    Calls Try.prog 83 #[.slice A n cap] w fun e w' => e = retRune (runeF zs) ∧ w = w' := by
  cases zs with
  | nil =>
    simp at hl; subst hl
    exact refRune_nil A cap w
  | cons c t =>
    obtain ⟨b, off, rfl, hc⟩ := hr.cons
    have hcb := hb c (by simp)
    have hbt : Byte t := fun z hz => hb z (by simp [hz])
    have h0 : w.cell? ⟨b, off, none⟩ = some (.int .u8 c) := hc 0 c rfl
    have hn : n = t.length + 1 := by simpa using hl.symm
    by_cases g1 : c < 128
    · rw [runeF_ascii c t hcb.1 g1]
      exact refRune_one b off c n cap w hcb.1 g1 (by omega) h0
    · by_cases g2 : (128 ≤ c ∧ c < 194) ∨ (244 < c ∧ c < 256)
      · rw [runeF_off c t g2]
        exact refRune_off b off c n cap w g2 (by omega) h0
      · by_cases g3 : c ≤ 223
        · exact refRune_2 b off c t n cap w (by omega) g3 hbt hn hnc hm hc
        · by_cases g4 : c ≤ 239
          · exact refRune_3 b off c t n cap w (by omega) g4 hbt hn hnc hm hc
          · exact refRune_4 b off c t n cap w (by omega) (by omega) hbt hn hnc hm hc
theorem refRune_at (A : Option Addr) (n cap : Nat) (ys : List Int) (w : World) (r : Int) (j : Int) (ok : Bool) (hl : ys.length = n) (hnc : n ≤ cap) (hm : cap ≤ 9223372036854775807) (hb : Byte ys) (hr : RdB w A ys) (hf : runeF ys = (r, j, ok)) :
    Calls Try.prog 83 #[.slice A n cap] w fun e w' => e = .returned (.tuple #[.int .i32 r, .int .i64 j, .bool ok]) ∧ w = w' := by
  have := refRune_any A n cap ys w hl hnc hm hb hr
  rw [hf] at this
  exact this
def badL (tabs : Bool) (zs : List Int) : Bool := !(runeF zs).2.2 || !prt (runeF zs).1 || (runeF zs).1 == 10 || (runeF zs).1 == 13 || ((runeF zs).1 == 9 && !tabs)
def inF (tabs : Bool) : Nat → List Int → Bool
  | 0, _ => true
  | f + 1, zs => if zs = [] then true else if badL tabs zs = true then false else inF tabs f (zs.drop (runeF zs).2.1.toNat)
theorem inF_fuel (tabs : Bool) : ∀ (f g : Nat) (zs : List Int), zs.length ≤ f → zs.length ≤ g → inF tabs f zs = inF tabs g zs := by
  intro f
  induction f with
  | zero =>
    intro g zs h1 h2
    have : zs = [] := List.eq_nil_of_length_eq_zero (by omega)
    subst this
    cases g <;> simp [inF]
  | succ f ih =>
    intro g zs h1 h2
    cases g with
    | zero =>
      have : zs = [] := List.eq_nil_of_length_eq_zero (by omega)
      subst this
      simp [inF]
    | succ g =>
      simp only [inF]
      split
      · rfl
      · rename_i hne
        split
        · rfl
        · have := runeF_n zs hne
          exact ih g _ (by rw [List.length_drop]; omega) (by rw [List.length_drop]; omega)
theorem inF_bad (tabs : Bool) (n : Nat) (zs : List Int) (h1 : zs.length ≤ n) (hne : zs ≠ []) (hb : badL tabs zs = true) : inF tabs n zs = false := by
  cases n with
  | zero => exact absurd (List.eq_nil_of_length_eq_zero (by omega)) hne
  | succ n => simp only [inF]; rw [if_neg hne, if_pos hb]
theorem inF_good (tabs : Bool) (n : Nat) (zs : List Int) (h1 : zs.length ≤ n) (hne : zs ≠ []) (hb : badL tabs zs = false) : inF tabs n zs = inF tabs n (zs.drop (runeF zs).2.1.toNat) := by
  cases n with
  | zero => exact absurd (List.eq_nil_of_length_eq_zero (by omega)) hne
  | succ n =>
    have := runeF_n zs hne
    rw [inF, if_neg hne, if_neg (by simp [hb])]
    exact inF_fuel tabs _ _ _ (by rw [List.length_drop]; omega) (by rw [List.length_drop]; omega)
theorem inF_nil (tabs : Bool) (n : Nat) : inF tabs n [] = true := by cases n <;> simp [inF]
/-- One round: the rune at k, and what is left. -/
theorem in_round (tabs : Bool) (n k : Nat) (zs : List Int) (hl : zs.length = n) (hk : k < n) : ∃ (r : Int) (j : Nat) (ok : Bool), runeF (zs.drop k) = (r, (j : Int), ok) ∧ 1 ≤ j ∧ k + j ≤ n ∧
    ((!ok || !prt r || r == 10 || r == 13 || (r == 9 && !tabs)) = true → inF tabs n (zs.drop k) = false) ∧
    ((!ok || !prt r || r == 10 || r == 13 || (r == 9 && !tabs)) = false → inF tabs n (zs.drop k) = inF tabs n (zs.drop (k + j))) := by
  have hne : zs.drop k ≠ [] := by intro h; have := congrArg List.length h; rw [List.length_drop] at this; simp at this; omega
  have hlen : (zs.drop k).length ≤ n := by rw [List.length_drop]; omega
  have hn := runeF_n _ hne
  rw [List.length_drop] at hn
  refine ⟨(runeF (zs.drop k)).1, (runeF (zs.drop k)).2.1.toNat, (runeF (zs.drop k)).2.2, ?_, by omega, by omega, ?_, ?_⟩
  · rw [Int.toNat_of_nonneg (by omega)]
  · exact fun h => inF_bad tabs n _ hlen hne h
  · intro h
    rw [inF_good tabs n _ hlen hne h, List.drop_drop]
/-- The ways of one round, test by test. -/
theorem in_ways (ok : Bool) (r : Int) : ok = false ∨ (ok = true ∧ prt r = false) ∨ (ok = true ∧ prt r = true ∧ r = 9) ∨ (ok = true ∧ prt r = true ∧ r = 10) ∨ (ok = true ∧ prt r = true ∧ r = 13) ∨
    (ok = true ∧ prt r = true ∧ (r == 9) = false ∧ (r == 10) = false ∧ (r == 13) = false) := by
  cases ok
  · exact .inl rfl
  · cases hp : prt r
    · exact .inr (.inl ⟨rfl, rfl⟩)
    · by_cases h9 : r = 9
      · exact .inr (.inr (.inl ⟨rfl, rfl, h9⟩))
      · by_cases h10 : r = 10
        · exact .inr (.inr (.inr (.inl ⟨rfl, rfl, h10⟩)))
        · by_cases h13 : r = 13
          · exact .inr (.inr (.inr (.inr (.inl ⟨rfl, rfl, h13⟩))))
          · exact .inr (.inr (.inr (.inr (.inr ⟨rfl, rfl, beq_eq_false_iff_ne.2 h9, beq_eq_false_iff_ne.2 h10, beq_eq_false_iff_ne.2 h13⟩))))
/-- A byte among a text's. -/
def hasB (s : ByteArray) (c : Int) : Bool := (byt s).contains c
set_option maxHeartbeats 400000 in
theorem refIn_any (c : Int) (s : ByteArray) (w : World) (hs : s.size ≤ 1000000) (v : Bool) (hv : (byt s).contains c = v) :
    Calls Try.prog 107 #[.int .u8 c, .string s] w fun e w' => e = .returned (.bool v) ∧ w = w' := by
  have HV := Lib.hid hv
  clear hv
  go_enter Try.func107, Try.ntmps107
  go_wp2
  go_loop [4, 5] (fun r i => ∃ k : Nat, k ≤ s.size ∧ i = .int .i64 k ∧ r = .bool false ∧ Hid (∀ j, j < k → ((byt s).getD j 0 == c) = false)) (fun _ i => s.size - (intOf i).toNat)
  case atStart => exact ⟨0, Nat.zero_le _, rfl, rfl, fun j hj => by omega⟩
  case round =>
    obtain ⟨k, hk, rfl, rfl, HA⟩ := hrel
    by_cases hlt : k < s.size
    · have hat := byt_at s k hlt
      have hgd : (byt s).getD k 0 = (s[k].toNat : Int) := by simp [List.getD, hat]
      by_cases he : (s[k].toNat : Int) = c
      · have hv : v = true := by rw [← HV.out, List.contains_iff_mem, ← he]; exact List.mem_of_getElem? hat
        have hd : ((s[k].toNat : Int) == c) = true := beq_iff_eq.2 he
        subst hv
        clear he hgd hat
        go_wp2
        go_ret
        exact ⟨rfl, rfl⟩
      · have hd : ((s[k].toNat : Int) == c) = false := beq_eq_false_iff_ne.2 he
        have hn : ∀ j, j < k + 1 → ((byt s).getD j 0 == c) = false := by
          intro j hj
          rcases Nat.lt_succ_iff_lt_or_eq.1 hj with h | h
          · exact HA.out j h
          · subst h; rw [hgd]; exact hd
        have HN := Lib.hid hn
        clear he hgd hat hn
        go_wp2
        go_round
        case rel => exact ⟨k + 1, by omega, by go_num, rfl, HN⟩
        case measure => simp [intOf]; omega
    · have hv : v = false := by
        rw [← HV.out]
        apply Bool.eq_false_iff.2
        intro h
        rw [List.contains_iff_mem] at h
        obtain ⟨j, hj, he⟩ := List.mem_iff_getElem.1 h
        have := HA.out j (by rw [byt_len] at hj; omega)
        rw [show (byt s).getD j 0 = c by simp [List.getD, hj, he]] at this
        simp at this
      subst hv
      go_wp2
      go_ret
      exact ⟨rfl, rfl⟩
theorem refIn_has (c : Int) (s : ByteArray) (w : World) (hs : s.size ≤ 1000000) :
    Calls Try.prog 107 #[.int .u8 c, .string s] w fun e w' => e = .returned (.bool (hasB s c)) ∧ w = w' := refIn_any c s w hs _ rfl
def nameF (l : List Int) : Bool := decide (1 ≤ l.length) && decide (l.length ≤ 32) && l.all nmb
theorem nameF_len (l : List Int) (h : l.length = 0 ∨ 32 < l.length) : nameF l = false := by
  unfold nameF
  rcases h with h | h
  · rw [decide_eq_false (show ¬ 1 ≤ l.length by omega)]; rfl
  · rw [decide_eq_false (show ¬ l.length ≤ 32 by omega)]; simp
theorem byt_take (s : ByteArray) (k : Nat) (h : k < s.size) : (byt s).take (k + 1) = (byt s).take k ++ [(s[k].toNat : Int)] := by
  rw [List.take_add_one, byt_at s k h]; rfl
set_option maxHeartbeats 1000000 in
theorem letter_any (c : Int) (w : World) :
    Calls Try.prog 101 #[.int .u8 c] w fun e w' => e = .returned (.bool (nmb c)) ∧ w = w' := by
  go_enter Try.func101, Try.ntmps101
  go_wp2
  all_goals
    go_ret
    refine ⟨ret_bool (bool_iff ?_), rfl⟩
    simp only [nmb, dgt]
    simp_all
    try omega
set_option maxHeartbeats 1000000 in
theorem refName_any (s : ByteArray) (w : World) (hs : s.size ≤ maxLen) :
    Calls Try.prog 100 #[.string s] w fun e w' => e = .returned (.bool (nameF (byt s))) ∧ w = w' := by
  unfold maxLen at hs
  have hl := byt_len s
  have hl' := Lib.hid hl
  clear hl
  go_enter Try.func100, Try.ntmps100
  go_wp2
  go_loop [3] (fun i => ∃ k : Nat, k ≤ s.size ∧ i = .int .i64 k ∧ Hid (((byt s).take k).all nmb = true)) (fun i => s.size - (intOf i).toNat)
  case atStart => exact ⟨0, Nat.zero_le _, rfl, by show (List.take 0 (byt s)).all nmb = true; simp⟩
  case round =>
    obtain ⟨k, hk, rfl, HA⟩ := hrel
    by_cases hlt : k < s.size
    · cases hn : nmb (s[k].toNat : Int)
      · have hf : nameF (byt s) = false := by
          have : (byt s).all nmb = false := by
            rw [List.all_eq_false]
            exact ⟨(s[k].toNat : Int), List.mem_of_getElem? (byt_at s k hlt), by simp [hn]⟩
          unfold nameF; rw [this]; simp
        have hf' := Lib.hid hf
        clear hf
        go_wp2_with (go_at_call 101; refine (letter_any _ _).mono ?_; rintro e w' ⟨rfl, rfl⟩)
        go_ret
        exact ⟨ret_bool hf'.out.symm, rfl⟩
      · have ht : ((byt s).take (k + 1)).all nmb = true := by rw [byt_take s k hlt, List.all_append, HA.out]; simp [hn]
        have ht' := Lib.hid ht
        clear ht
        go_wp2_with (go_at_call 101; refine (letter_any _ _).mono ?_; rintro e w' ⟨rfl, rfl⟩)
        go_round
        case rel => exact ⟨k + 1, by omega, by go_num, ht'⟩
        case measure => simp [intOf]; omega
    · have hf : nameF (byt s) = (decide (1 ≤ s.size) && decide (s.size ≤ 32)) := by
        have : (byt s).all nmb = true := by
          rw [← HA.out, List.take_of_length_le (by rw [hl'.out]; omega)]
        unfold nameF; rw [this, hl'.out]; simp
      have hf' := Lib.hid hf
      clear hf
      by_cases h1 : 1 ≤ s.size
      · have d1 : (1 : Int) ≤ (s.size : Int) := by omega
        go_wp2
        go_ret
        refine ⟨ret_bool (bool_iff ?_), rfl⟩
        rw [hf'.out]
        simp only [Bool.and_eq_true, decide_eq_true_eq]
        omega
      · have d1 : decide ((1 : Int) ≤ (s.size : Int)) = false := decide_eq_false (by omega)
        have hf2 : nameF (byt s) = false := by rw [hf'.out, decide_eq_false h1]; rfl
        have hf3 := Lib.hid hf2
        clear hf2
        go_wp2
        go_ret
        exact ⟨ret_bool hf3.out.symm, rfl⟩
def blkF (l : List Int) : Nat := (l.takeWhile (· == 32)).length
theorem blk_len (l : List Int) : blkF l ≤ l.length := (List.takeWhile_sublist _).length_le
theorem blk_cons (x : Int) (t : List Int) : blkF (x :: t) = if x = 32 then blkF t + 1 else 0 := by
  unfold blkF
  rw [List.takeWhile_cons]
  by_cases hx : x = 32
  · subst hx; simp
  · rw [if_neg hx, beq_eq_false_iff_ne.2 hx]; simp
theorem drop_cons_at {l : List Int} {k : Nat} (h : k < l.length) : l.drop k = l.getD k 0 :: l.drop (k + 1) := by
  rw [List.drop_eq_getElem_cons h]
  congr 1
  simp [List.getD, h]
theorem blk_at {l : List Int} {k : Nat} (h : k < l.length) : blkF (l.drop k) = if l.getD k 0 = 32 then blkF (l.drop (k + 1)) + 1 else 0 := by rw [drop_cons_at h, blk_cons]
theorem blk_end {l : List Int} {k : Nat} (h : l.length ≤ k) : blkF (l.drop k) = 0 := by rw [List.drop_of_length_le h]; rfl
def brk (zs : List Int) : Bool := decide (1 < zs.length) && zs.getD 1 0 == 10
def mrkC (zs : List Int) : Bool := decide (3 ≤ zs.length) && zs.getD 0 0 == 239 && zs.getD 1 0 == 187 && zs.getD 2 0 == 191
def badAt (zs : List Int) : Bool := !(runeF zs).2.2 || !prt (runeF zs).1 || ((runeF zs).1 == 13 && !brk zs)
def chk : Nat → List Int → Int → Int × Int
  | 0, _, _ => (0, 0)
  | f + 1, zs, k => if zs = [] then (0, 0) else if badAt zs = true then (k, 1) else chk f (zs.drop (runeF zs).2.1.toNat) (k + (runeF zs).2.1)
def checkF (zs : List Int) : Int × Int :=
  if 65536 < zs.length then (65536, 10) else if mrkC zs = true then chk zs.length (zs.drop 3) 3 else chk zs.length zs 0
theorem chk_fuel : ∀ (f g : Nat) (zs : List Int) (k : Int), zs.length ≤ f → zs.length ≤ g → chk f zs k = chk g zs k := by
  intro f
  induction f with
  | zero =>
    intro g zs k h1 h2
    have : zs = [] := List.eq_nil_of_length_eq_zero (by omega)
    subst this
    cases g <;> simp [chk]
  | succ f ih =>
    intro g zs k h1 h2
    cases g with
    | zero =>
      have : zs = [] := List.eq_nil_of_length_eq_zero (by omega)
      subst this
      simp [chk]
    | succ g =>
      simp only [chk]
      split
      · rfl
      · rename_i hne
        split
        · rfl
        · have := runeF_n zs hne
          exact ih g _ _ (by rw [List.length_drop]; omega) (by rw [List.length_drop]; omega)
theorem chk_bad (n : Nat) (zs : List Int) (k : Int) (h1 : zs.length ≤ n) (hne : zs ≠ []) (hb : badAt zs = true) : chk n zs k = (k, 1) := by
  cases n with
  | zero => exact absurd (List.eq_nil_of_length_eq_zero (by omega)) hne
  | succ n => simp only [chk]; rw [if_neg hne, if_pos hb]
theorem chk_good (n : Nat) (zs : List Int) (k : Int) (h1 : zs.length ≤ n) (hne : zs ≠ []) (hb : badAt zs = false) : chk n zs k = chk n (zs.drop (runeF zs).2.1.toNat) (k + (runeF zs).2.1) := by
  cases n with
  | zero => exact absurd (List.eq_nil_of_length_eq_zero (by omega)) hne
  | succ n =>
    have := runeF_n zs hne
    rw [chk, if_neg hne, if_neg (by simp [hb])]
    exact chk_fuel _ _ _ _ (by rw [List.length_drop]; omega) (by rw [List.length_drop]; omega)
theorem chk_nil (n : Nat) (k : Int) : chk n [] k = (0, 0) := by cases n <;> simp [chk]
def retCheck (p : Int × Int) : Ending := .returned (.tuple #[.int .i64 p.1, .int .i64 p.2])
theorem chk_round (n k : Nat) (zs : List Int) (hl : zs.length = n) (hk : k < n) : ∃ (r : Int) (j : Nat) (ok : Bool), runeF (zs.drop k) = (r, (j : Int), ok) ∧ 1 ≤ j ∧ k + j ≤ n ∧
    ((ok = false ∨ prt r = false ∨ ((r == 13) = true ∧ brk (zs.drop k) = false)) → chk n (zs.drop k) k = ((k : Int), 1)) ∧
    (ok = true → prt r = true → ((r == 13) = false ∨ brk (zs.drop k) = true) → chk n (zs.drop k) k = chk n (zs.drop (k + j)) ((k + j : Nat) : Int)) := by
  have hne : zs.drop k ≠ [] := by intro h; have := congrArg List.length h; rw [List.length_drop] at this; simp at this; omega
  have hlen : (zs.drop k).length ≤ n := by rw [List.length_drop]; omega
  have hn := runeF_n _ hne
  rw [List.length_drop] at hn
  refine ⟨(runeF (zs.drop k)).1, (runeF (zs.drop k)).2.1.toNat, (runeF (zs.drop k)).2.2, ?_, by omega, by omega, ?_, ?_⟩
  · rw [Int.toNat_of_nonneg (by omega)]
  · intro h
    refine chk_bad n _ k hlen hne ?_
    unfold badAt
    rcases h with h | h | ⟨h, h'⟩
    · rw [h]; rfl
    · rw [h]; simp
    · rw [h, h']; simp
  · intro h1 h2 h3
    rw [chk_good n _ k hlen hne ?_]
    · rw [List.drop_drop]
      have e : (k : Int) + (runeF (zs.drop k)).2.1 = ((k + (runeF (zs.drop k)).2.1.toNat : Nat) : Int) := by omega
      rw [e]
    · unfold badAt
      rw [h1, h2]
      rcases h3 with h3 | h3 <;> rw [h3] <;> simp
set_option maxHeartbeats 1000000 in
theorem refMarked_any (A : Option Addr) (n cap : Nat) (zs : List Int) (w : World) (hl : zs.length = n) (hnc : n ≤ cap) (hm : cap ≤ 9223372036854775807) (hr : RdB w A zs) :
    Calls Try.prog 82 #[.slice A n cap] w fun e w' => e = .returned (.bool (mrkC zs)) ∧ w = w' := by
  by_cases h1 : 3 ≤ n
  · obtain ⟨b, off, rfl, hc⟩ := hr.addr (by omega)
    have c0 : w.cell? ⟨b, off, none⟩ = some (.int .u8 (zs.getD 0 0)) := hc 0 (by omega)
    have c1 := hc 1 (by omega)
    have c2 := hc 2 (by omega)
    have d : (3 : Int) ≤ (n : Int) := by omega
    have d0 : (0 : Int) < (n : Int) := by omega
    have d1 : (1 : Int) < (n : Int) := by omega
    have d2 : (2 : Int) < (n : Int) := by omega
    have e : mrkC zs = (zs.getD 0 0 == 239 && zs.getD 1 0 == 187 && zs.getD 2 0 == 191) := by unfold mrkC; rw [decide_eq_true (by omega)]; rfl
    rw [e]
    generalize zs.getD 0 0 = x at *
    generalize zs.getD 1 0 = y at *
    generalize zs.getD 2 0 = z at *
    clear e hc hr hl
    go_enter Try.func82, Try.ntmps82
    go_wp2
    all_goals (go_ret; refine ⟨ret_bool (bool_iff ?_), rfl⟩; simp_all)
  · have d : decide ((3 : Int) ≤ (n : Int)) = false := decide_eq_false (by omega)
    have e : mrkC zs = false := by unfold mrkC; rw [decide_eq_false (by omega)]; rfl
    rw [e]
    clear e hr hl
    go_enter Try.func82, Try.ntmps82
    go_wp2
    go_ret
    exact ⟨rfl, rfl⟩
theorem brk_drop (zs : List Int) (n k : Nat) (hl : zs.length = n) : brk (zs.drop k) = (decide (k + 1 < n) && zs.getD (k + 1) 0 == 10) := by
  unfold brk
  rw [List.length_drop, hl]
  have e : (zs.drop k).getD 1 0 = zs.getD (k + 1) 0 := by simp [List.getD]
  rw [e]
  congr 1
  exact decide_eq_decide.2 (by omega)
set_option maxHeartbeats 1000000 in
theorem refCheck_limit (A : Option Addr) (n cap : Nat) (w : World) (hnc : n ≤ cap) (hm : cap ≤ 9223372036854775807) (h : 65536 < n) :
    Calls Try.prog 74 #[.slice A n cap] w fun e w' => e = retCheck (65536, 10) ∧ w = w' := by
  have d : (65536 : Int) < (n : Int) := by omega
  go_enter Try.func74, Try.ntmps74
  go_wp2
  go_ret2
  exact ⟨rfl, rfl⟩
set_option maxHeartbeats 4000000 in
theorem refCheck_some (b off : Nat) (n cap : Nat) (zs : List Int) (w : World) (hl : zs.length = n) (hnc : n ≤ cap) (hm : cap ≤ 9223372036854775807) (hb : Byte zs) (hr : RdB w (some ⟨b, off, none⟩) zs) (h : n ≤ 65536) :
    Calls Try.prog 74 #[.slice (some ⟨b, off, none⟩) n cap] w fun e w' => e = retCheck (checkF zs) ∧ w = w' := by
  have d : decide ((65536 : Int) < (n : Int)) = false := decide_eq_false (by omega)
  have HL := Lib.hid hl
  have HB := Lib.hid hb
  have HR := Lib.hid hr
  obtain ⟨m, hmk, hm3, hF⟩ : ∃ m : Nat, m ≤ n ∧ (mrkC zs = true ∧ m = 3 ∨ mrkC zs = false ∧ m = 0) ∧ checkF zs = chk n (zs.drop m) m := by
    cases hmr : mrkC zs
    · refine ⟨0, by omega, .inr ⟨rfl, rfl⟩, ?_⟩
      unfold checkF; rw [if_neg (by omega), if_neg (by simp [hmr])]; simp [hl]
    · refine ⟨3, ?_, .inl ⟨rfl, rfl⟩, ?_⟩
      · unfold mrkC at hmr; simp at hmr; omega
      · unfold checkF; rw [if_neg (by omega), if_pos hmr]; simp [hl]
  have HF := Lib.hid hF
  clear hF hl hb hr
  rcases hm3 with ⟨hmr, rfl⟩ | ⟨hmr, rfl⟩
  all_goals
    go_enter Try.func74, Try.ntmps74
    go_wp2_with (go_at_call 82; refine (refMarked_any _ _ _ zs _ HL.out (by omega) (by omega) HR.out).mono ?_; rintro e w' ⟨rfl, rfl⟩)
    clear hmr
    go_loop [2, 3, 4] (fun r1 e a => ∃ k : Nat, k ≤ n ∧ a = .int .i64 k ∧ e = .int .i64 0 ∧ r1 = .int .i64 0 ∧ Hid (checkF zs = chk n (zs.drop k) k)) (fun _ _ a => n - (intOf a).toNat)
    case atStart => exact ⟨_, hmk, rfl, rfl, rfl, HF⟩
    case round =>
      obtain ⟨k, hk, rfl, rfl, rfl, HA⟩ := hrel
      clear HF
      by_cases hlt : k < n
      · obtain ⟨r, j, ok, hrf, hj1, hj2, hbad, hgood⟩ := chk_round n k zs HL.out hlt
        have hly : (zs.drop k).length = n - k := by rw [List.length_drop, HL.out]
        have cr := fun W hW => refRune_at (some ⟨b, off + k, none⟩) (n - k) (cap - k) (zs.drop k) W r j ok hly (by omega) (by omega) (HB.out.drop k) hW hrf
        have CR := Lib.hid cr
        have HBAD := Lib.hid hbad
        have HGOOD := Lib.hid hgood
        clear cr hbad hgood hrf hly
        have hbrk : brk (zs.drop k) = (decide (k + 1 < n) && zs.getD (k + 1) 0 == 10) := brk_drop zs n k HL.out
        rw [hbrk] at HBAD HGOOD
        clear hbrk
        cases ok
        · have hfin : checkF zs = ((k : Int), 1) := by rw [HA.out]; exact HBAD.out (.inl rfl)
          have HFIN := Lib.hid hfin
          clear hfin HBAD HGOOD
          go_wp2_with (go_at_call 83; refine (CR.out _ (HR.out.drop k)).mono ?_; rintro e w' ⟨rfl, rfl⟩)
          go_ret2
          exact ⟨by rw [HFIN.out]; rfl, rfl⟩
        · cases hp : prt r
          · have hfin : checkF zs = ((k : Int), 1) := by rw [HA.out]; exact HBAD.out (.inr (.inl hp))
            have HFIN := Lib.hid hfin
            clear hfin HBAD HGOOD
            go_wp2_with (first | (go_at_call 83; refine (CR.out _ (HR.out.drop k)).mono ?_; rintro e w' ⟨rfl, rfl⟩) | (go_at_call 84; refine (refPrt_any _ _).mono ?_; rintro e w' ⟨rfl, rfl⟩))
            go_ret2
            exact ⟨by rw [HFIN.out]; rfl, rfl⟩
          · cases h13 : (r == 13)
            · have hfin : checkF zs = chk n (zs.drop (k + j)) ((k + j : Nat) : Int) := by rw [HA.out]; exact HGOOD.out rfl hp (.inl h13)
              have HFIN := Lib.hid hfin
              clear hfin HBAD HGOOD
              go_wp2_with (first | (go_at_call 83; refine (CR.out _ (HR.out.drop k)).mono ?_; rintro e w' ⟨rfl, rfl⟩) | (go_at_call 84; refine (refPrt_any _ _).mono ?_; rintro e w' ⟨rfl, rfl⟩))
              go_round
              case rel => exact ⟨k + j, hj2, by go_num, rfl, rfl, HFIN⟩
              case measure => simp [intOf]; omega
            · by_cases hk1 : k + 1 < n
              · have dk : (k : Int) + 1 < (n : Int) := by omega
                have c1 : w.cell? ⟨b, off + (k + 1), none⟩ = some (.int .u8 (zs.getD (k + 1) 0)) := by
                  obtain ⟨b', off', e, hc⟩ := HR.out (k + 1) _ (getD_at (by rw [HL.out]; exact hk1))
                  injection e with e
                  injection e with e1 e2
                  subst e1 e2
                  exact hc
                rw [decide_eq_true hk1, Bool.true_and] at HBAD HGOOD
                generalize zs.getD (k + 1) 0 = x at *
                cases hx : (x == 10)
                · have hx' : (x != 10) = true := by simp only [bne, hx]; rfl
                  have hfin : checkF zs = ((k : Int), 1) := by rw [HA.out]; exact HBAD.out (.inr (.inr ⟨h13, hx⟩))
                  have HFIN := Lib.hid hfin
                  clear hfin HBAD HGOOD hx
                  go_wp2_with (first | (go_at_call 83; refine (CR.out _ (HR.out.drop k)).mono ?_; rintro e w' ⟨rfl, rfl⟩) | (go_at_call 84; refine (refPrt_any _ _).mono ?_; rintro e w' ⟨rfl, rfl⟩))
                  go_ret2
                  exact ⟨by rw [HFIN.out]; rfl, rfl⟩
                · have hx' : (x != 10) = false := by simp only [bne, hx]; rfl
                  have hfin : checkF zs = chk n (zs.drop (k + j)) ((k + j : Nat) : Int) := by rw [HA.out]; exact HGOOD.out rfl hp (.inr hx)
                  have HFIN := Lib.hid hfin
                  clear hfin HBAD HGOOD hx
                  go_wp2_with (first | (go_at_call 83; refine (CR.out _ (HR.out.drop k)).mono ?_; rintro e w' ⟨rfl, rfl⟩) | (go_at_call 84; refine (refPrt_any _ _).mono ?_; rintro e w' ⟨rfl, rfl⟩))
                  go_round
                  case rel => exact ⟨k + j, hj2, by go_num, rfl, rfl, HFIN⟩
                  case measure => simp [intOf]; omega
              · have dk : (n : Int) ≤ (k : Int) + 1 := by omega
                rw [decide_eq_false hk1, Bool.false_and] at HBAD HGOOD
                have hfin : checkF zs = ((k : Int), 1) := by rw [HA.out]; exact HBAD.out (.inr (.inr ⟨h13, rfl⟩))
                have HFIN := Lib.hid hfin
                clear hfin HBAD HGOOD
                go_wp2_with (first | (go_at_call 83; refine (CR.out _ (HR.out.drop k)).mono ?_; rintro e w' ⟨rfl, rfl⟩) | (go_at_call 84; refine (refPrt_any _ _).mono ?_; rintro e w' ⟨rfl, rfl⟩))
                go_ret2
                exact ⟨by rw [HFIN.out]; rfl, rfl⟩
      · have hfin : checkF zs = (0, 0) := by
          rw [HA.out, List.drop_of_length_le (by rw [HL.out]; omega)]; exact chk_nil _ _
        have HFIN := Lib.hid hfin
        clear hfin
        go_wp2
        go_ret2
        exact ⟨by rw [HFIN.out]; rfl, rfl⟩
set_option maxHeartbeats 1000000 in
theorem refCheck_nil (A : Option Addr) (cap : Nat) (w : World) (hm : cap ≤ 9223372036854775807) :
    Calls Try.prog 74 #[.slice A 0 cap] w fun e w' => e = retCheck (0, 0) ∧ w = w' := by
  have hr : RdB w A [] := fun k z h => by simp at h
  have hmr : mrkC [] = false := rfl
  go_enter Try.func74, Try.ntmps74
  go_wp2_with (go_at_call 82; refine (refMarked_any A 0 cap [] w rfl (by omega) hm hr).mono ?_; rintro e w' ⟨rfl, rfl⟩)
  go_loop [2, 3, 4] (fun r1 e a => a = .int .i64 0 ∧ e = .int .i64 0 ∧ r1 = .int .i64 0) (fun _ _ _ => 0)
  case atStart => exact ⟨rfl, rfl, rfl⟩
  case round =>
    obtain ⟨rfl, rfl, rfl⟩ := hrel
    go_wp2
    go_ret2
    exact ⟨rfl, rfl⟩
theorem refCheck_any (A : Option Addr) (n cap : Nat) (zs : List Int) (w : World) (hl : zs.length = n) (hnc : n ≤ cap) (hm : cap ≤ 9223372036854775807) (hb : Byte zs) (hr : RdB w A zs) :
    Calls Try.prog 74 #[.slice A n cap] w fun e w' => e = retCheck (checkF zs) ∧ w = w' := by
  by_cases hlim : 65536 < n
  · have : checkF zs = (65536, 10) := by unfold checkF; rw [if_pos (by omega)]
    rw [this]
    exact refCheck_limit A n cap w hnc hm hlim
  · by_cases h0 : n = 0
    · subst h0
      have : zs = [] := List.eq_nil_of_length_eq_zero hl
      subst this
      exact refCheck_nil A cap w hm
    · obtain ⟨b, off, rfl, _⟩ := hr.addr (by omega)
      exact refCheck_some b off n cap zs w hl hnc hm hb hr (by omega)
/-- Check, its answer named. -/
theorem refCheck_at (A : Option Addr) (n cap : Nat) (zs : List Int) (w : World) (hl : zs.length = n) (hnc : n ≤ cap) (hm : cap ≤ 9223372036854775807) (hb : Byte zs) (hr : RdB w A zs) (x y : Int) (hf : checkF zs = (x, y)) :
    Calls Try.prog 74 #[.slice A n cap] w fun e w' => e = .returned (.tuple #[.int .i64 x, .int .i64 y]) ∧ w = w' := by
  have := refCheck_any A n cap zs w hl hnc hm hb hr
  rw [hf] at this
  exact this
theorem slice_lh (A : Option Addr) (n c lo hi : Nat) (zs : List Int) (hl : zs.length = n) (hnc : n ≤ c) (hA : A = none → c = 0) (h1 : lo ≤ hi) (h2 : hi ≤ n) : ∃ A', 
    (∀ W, (Instr.slice 96 (.slice A n c) (some (.int .i64 (lo : Int))) (some (.int .i64 (hi : Int))) none).run Try.prog W = .ok (.slice A' (hi - lo) (c - lo)) W) ∧ (A' = none → c - lo = 0) ∧
    ∀ W, RdB W A zs → RdB W A' ((zs.drop lo).take (hi - lo)) := by
  obtain ⟨i, hi', hz, hs1, _⟩ := info_parts byte_info
  have hel : Try.prog.elem 96 = 5 := by kernel_rfl
  have hun : Try.prog.underlying 96 = some (.slice (Try.prog.elem 96)) := by rw [hel]; exact Try.underlying96
  have hrun : ∀ W, (Instr.slice 96 (.slice A n c) (some (.int .i64 (lo : Int))) (some (.int .i64 (hi : Int))) none).run Try.prog W = .ok (sliced A lo hi c 1) W := by
    intro W
    rw [run_slice_lh W 96 A n c hun .i64 .i64 _ _ (by omega) (by omega) (by omega), hel]
    simp [sizeOf, typeInfo, hi', hs1, sliced]
  cases A with
  | none =>
    obtain rfl : c = 0 := hA rfl
    refine ⟨none, fun W => by rw [hrun W]; simp [sliced], fun _ => by omega, fun W h => ?_⟩
    have := h.none_
    subst this; simp; exact RdB.nil _ _
  | some a =>
    by_cases h : c = lo
    · refine ⟨some a, fun W => by rw [hrun W]; simp [sliced, h], fun h' => (by cases h'), fun W hr => ?_⟩
      have : hi - lo = 0 := by omega
      rw [this]; simp; exact RdB.nil _ _
    · refine ⟨some (a.add lo), fun W => by rw [hrun W]; simp [sliced, h], fun h' => (by cases h'), fun W hr => ?_⟩
      by_cases h0 : zs = []
      · subst h0; simp; exact RdB.nil _ _
      · obtain ⟨b, off, e, _⟩ := hr.addr (List.length_pos_iff.2 h0)
        injection e with e; subst e
        rw [add_plain]
        exact (hr.drop lo).take _
theorem slice_l (A : Option Addr) (n c lo : Nat) (zs : List Int) (hl : zs.length = n) (hnc : n ≤ c) (hA : A = none → c = 0) (h1 : lo ≤ n) : ∃ A', 
    (∀ W, (Instr.slice 96 (.slice A n c) (some (.int .i64 (lo : Int))) none none).run Try.prog W = .ok (.slice A' (n - lo) (c - lo)) W) ∧ (A' = none → c - lo = 0) ∧
    ∀ W, RdB W A zs → RdB W A' (zs.drop lo) := by
  obtain ⟨A', hr, h2, h3⟩ := slice_lh A n c lo n zs hl hnc hA h1 (Nat.le_refl _)
  refine ⟨A', fun W => ?_, h2, fun W h => ?_⟩
  · have hel : Try.prog.elem 96 = 5 := by kernel_rfl
    have hun : Try.prog.underlying 96 = some (.slice (Try.prog.elem 96)) := by rw [hel]; exact Try.underlying96
    rw [← hr W, run_slice_lh W 96 A n c hun .i64 .i64 _ _ (by omega) (by omega) (by omega), run_slice_l W 96 A n c hun .i64 _ (by omega) (by omega)]
    simp
  · have := h3 W h
    rwa [List.take_of_length_le (by rw [List.length_drop]; omega)] at this
/-- The same, the place spelt as a number. -/
theorem slice_lI (A : Option Addr) (n c lo : Nat) (v : Int) (hv : v = (lo : Int)) (zs : List Int) (hl : zs.length = n) (hnc : n ≤ c) (hA : A = none → c = 0) (h1 : lo ≤ n) : ∃ A',
    (∀ W, (Instr.slice 96 (.slice A n c) (some (.int .i64 v)) none none).run Try.prog W = .ok (.slice A' (n - lo) (c - lo)) W) ∧ (A' = none → c - lo = 0) ∧
    ∀ W, RdB W A zs → RdB W A' (zs.drop lo) := by
  subst hv
  exact slice_l A n c lo zs hl hnc hA h1
/-- The beginning. -/
theorem slice_h (A : Option Addr) (n c hi : Nat) (h2 : hi ≤ n) (hnc : n ≤ c) (hA : A = none → c = 0) :
    ∀ W, (Instr.slice 96 (.slice A n c) none (some (.int .i64 (hi : Int))) none).run Try.prog W = .ok (.slice A hi c) W := by
  intro W
  obtain ⟨i, hi', hz, hs1, _⟩ := info_parts byte_info
  have hel : Try.prog.elem 96 = 5 := by kernel_rfl
  have hun : Try.prog.underlying 96 = some (.slice (Try.prog.elem 96)) := by rw [hel]; exact Try.underlying96
  rw [run_slice_h W 96 A n c hun .i64 _ (by omega) (by omega), hel]
  cases A with
  | none =>
    obtain rfl : c = 0 := hA rfl
    obtain rfl : hi = 0 := by omega
    simp [sizeOf, typeInfo, hi', hs1, sliced]
  | some a =>
    simp [sizeOf, typeInfo, hi', hs1, sliced]
    intro _
    unfold Addr.add
    split <;> simp_all
/-- Bytes as a text, held against a text. -/
theorem str_eq (zs : List Int) (hb : Byte zs) (s : ByteArray) : ((strOfNums zs).toList == s.toList) = (zs == byt s) := by
  apply bool_iff
  simp only [beq_iff_eq, Lib.toList_data]
  constructor
  · intro h
    rw [← ByteArray.ext (Array.toList_inj.1 h), byt_strOfNums zs hb]
  · intro h
    rw [h, strOfNums_byt]
/-- How long the slice in a slot is: for a loop's measure. -/
def lenV : Value → Nat | .slice _ n _ => n | _ => 0
theorem cell_keep {w w' : World} {p : Addr} {v : Value} (hb : Below w.heap.size w w') (h : w.cell? p = some v) : w'.cell? p = some v := by
  rw [hb.cell (World.block_lt_of_cell? _ _ h)]; exact h
theorem tmod_pos (v n : Int) (hn : 1 ≤ n) : (v.tmod n < 0 → v.tmod n + n = v % n) ∧ (0 ≤ v.tmod n → v.tmod n = v % n) := by
  have h := Int.tmod_eq_emod (a := v) (b := n)
  have h1 := Int.emod_nonneg v (show n ≠ 0 by omega)
  have h2 := Int.emod_lt_of_pos v (show 0 < n by omega)
  rw [h]
  split <;> omega
set_option maxHeartbeats 400000 in
theorem within_any (v n : Int) (w : World) (h1 : 1 ≤ n) (h2 : n ≤ 2000000000) (hv : -9223372036854775808 ≤ v ∧ v ≤ 9223372036854775807) :
    Calls Try.prog 8 #[.int .i64 v, .int .i64 n] w fun e w' => e = .returned (.int .i64 (v % n)) ∧ w = w' := by
  have H := Lib.hid (tmod_pos v n h1)
  have hm1 := Int.emod_nonneg v (show n ≠ 0 by omega)
  have hm2 := Int.emod_lt_of_pos v (show 0 < n by omega)
  go_enter Try.func8, Try.ntmps8
  go_wp2
  · go_ret
    have h := H.out.1 (by assumption)
    refine ⟨ret_int ?_, rfl⟩
    rw [h, IntWalk.wrap64_in _ (by omega)]
  · go_ret
    exact ⟨ret_int (H.out.2 (by assumption)), rfl⟩
/-- Within, as a natural number. -/
def WithinP (n : Nat) (w : World) (e : Ending) (w' : World) : Prop := ∃ k : Nat, k < n ∧ e = .returned (.int .i64 (k : Int)) ∧ w = w'
theorem within_nat (v : Int) (n : Nat) (w : World) (h1 : 1 ≤ n) (h2 : n ≤ 2000000000) (hv : -9223372036854775808 ≤ v ∧ v ≤ 9223372036854775807) :
    Calls Try.prog 8 #[.int .i64 v, .int .i64 (n : Int)] w (WithinP n w) := by
  refine (within_any v n w (by omega) (by omega) hv).mono ?_
  rintro e w' ⟨rfl, rfl⟩
  have hm1 := Int.emod_nonneg v (show (n : Int) ≠ 0 by omega)
  have hm2 := Int.emod_lt_of_pos v (show (0 : Int) < n by omega)
  exact ⟨(v % n).toNat, by omega, ret_int (by omega), rfl⟩
/-- A text's beginning, at most n bytes. -/
def TextP (n : Nat) (s : ByteArray) (w : World) (e : Ending) (w' : World) : Prop := ∃ t : ByteArray, byt t = (byt s).take n ∧ t.size ≤ n ∧ e = .returned (.string t) ∧ w = w'
set_option maxHeartbeats 400000 in
theorem text_any (s : ByteArray) (n : Nat) (w : World) (hn : n ≤ 1000000) (hs : s.size ≤ maxLen) :
    Calls Try.prog 57 #[.string s, .int .i64 n] w (TextP n s w) := by
  unfold maxLen at hs
  go_enter Try.func57, Try.ntmps57
  go_wp2
  · go_ret
    exact ⟨s.extract 0 n, by rw [byt_extract]; simp, by simp [ByteArray.size_extract]; omega, rfl, rfl⟩
  · go_ret
    exact ⟨s, by rw [List.take_of_length_le (by rw [byt_len]; omega)], by omega, rfl, rfl⟩
section
variable {P : Program} {ops : Array Oper} {Q : Exit → Act → World → Prop} {md : Region.Mode} {S : World → Prop} {t : Nat}
/-- The list of what has come up, with one more. -/
def upOne (L : Array Bool) (i : Nat) : Array Bool := L.setIfInBounds i true
/-- Has the gate not come up yet? -/
def Shut (t : Nat) (L : Array Bool) : Prop := L.getD t true = false
/-- Whatever order: while the gate t has not come up, S holds behind each operation. -/
def wpGate (P : Program) (md : Region.Mode) (ops : Array Oper) (Q : Exit → Act → World → Prop) (S : World → Prop) (t : Nat) : Nat → Array Bool → Act → World → Prop
  | 0, L, a, w => Region.ready md ops L = [] ∧ Q .normal a w
  | n + 1, L, a, w => (Region.ready md ops L = [] → Q .normal a w) ∧
      ∀ i ∈ Region.ready md ops L, wpOp P ops Q i (fun a' w' => (Shut t (upOne L i) → S w') ∧ wpGate P md ops Q S t n (upOne L i) a' w') a w
theorem any_of_gate (n : Nat) : ∀ (L : Array Bool) (a : Act) (w : World), wpGate P md ops Q S t n L a w → wpAny P md ops Q n L a w := by
  induction n with
  | zero => exact fun _ _ _ h => h
  | succ n ih => exact fun L a w h => ⟨h.1, fun i hi => wpOp_mono (fun a' w' hk => ih _ _ _ hk.2) (h.2 i hi)⟩
theorem region_gate {id : Nat} {a : Act} {w : World} (S : World → Prop) (t : Nat) (hm : P.follows .mixedOrders = true)
    (h : wpGate P .any ops Q S t ops.size (Array.replicate ops.size false) a w.drew) : (Code.region id ops true).wp P Q a w :=
  wp_region_any hm (any_of_gate _ _ _ _ h)
theorem gate_done {L : Array Bool} {a : Act} {w : World} (hr : Region.ready md ops L = []) (h : Q .normal a w) (n : Nat) : wpGate P md ops Q S t n L a w := by
  cases n with
  | zero => exact ⟨hr, h⟩
  | succ n => exact ⟨fun _ => h, fun i hi => by rw [hr] at hi; cases hi⟩
theorem gate_one {i n : Nat} {L : Array Bool} {a : Act} {w : World} (hr : Region.ready md ops L = [i])
    (h : wpOp P ops Q i (fun a' w' => (Shut t (upOne L i) → S w') ∧ wpGate P md ops Q S t n (upOne L i) a' w') a w) : wpGate P md ops Q S t (n + 1) L a w :=
  ⟨fun h0 => (by rw [hr] at h0; cases h0), fun j hj => by rw [hr] at hj; simp at hj; subst hj; exact h⟩
theorem shut_up {L : Array Bool} {i : Nat} (h : i ≠ t) : Shut t (upOne L i) ↔ Shut t L := by
  unfold Shut upOne; rw [getD_set_ne true h]
theorem up_comm (L : Array Bool) {i j : Nat} (h : i ≠ j) : upOne (upOne L i) j = upOne (upOne L j) i := Array.setIfInBounds_comm _ _ h
/-- Of two that may come up now neither waits for the other. -/
theorem no_wait {L : Array Bool} {i j : Nat} {oj : Oper} (hi : i ∈ Region.ready md ops L) (hj : j ∈ Region.ready md ops L) (ho : ops[j]? = some oj) : ∀ e ∈ oj.after, Region.binds md e = true → e.on ≠ i := by
  rintro e he hb rfl
  obtain ⟨_, o', ho', hall⟩ := mem_ready.1 hj
  rw [ho] at ho'
  cases ho'
  have up := hall e he hb
  have down := (mem_ready.1 hi).1
  by_cases hs : e.on < L.size
  · simp [hs] at up down
    rw [up] at down
    cases down
  · simp [Array.getElem?_eq_none (Nat.le_of_not_lt hs)] at up
/-- Nobody who could come ahead of i, from L on, meddles with it. -/
def Alone (md : Region.Mode) (ops : Array Oper) (oi : Oper) (i : Nat) (L : Array Bool) : Prop :=
  ∀ j oj, ops[j]? = some oj → j ≠ i → L.getD j true = false → (∀ e ∈ oj.after, Region.binds md e = true → e.on ≠ i) → oi.apart ops oj = true
theorem Alone.up {oi : Oper} {i j : Nat} {L : Array Bool} (h : Alone md ops oi i L) (hj : L.getD j true = false) : Alone md ops oi i (upOne L j) := by
  intro k ok hk hki hun hw
  refine h k ok hk hki ?_ hw
  by_cases e : j = k
  · exact e ▸ hj
  · unfold upOne at hun; rwa [getD_set_ne true e] at hun
/-- **One operation is taken first.** C: what it wants of the world; G: what is true of the list as long as it has not come up. -/
theorem gate_move {C : World → Prop} {G : Array Bool → Prop} {i : Nat} {oi : Oper} {v : Value} (hit : i ≠ t) (hi : ops[i]? = some oi) (hsel : ∀ (j : Nat) (o : Oper) cs b, ops[j]? = some o → o.op ≠ .select cs b)
    (hQ : ∀ c a w, Q (.panic c) (a.put oi.dst v) w → Q (.panic c) a w) (hC : ∀ L w, G L → (Shut t L → S w) → C w)
    (hG : ∀ L j, G L → i ∈ Region.ready md ops L → j ∈ Region.ready md ops L → j ≠ i → G (upOne L j)) (n : Nat) :
    ∀ (L : Array Bool) (a : Act) (w : World), Alone md ops oi i L → G L → i ∈ Region.ready md ops L → YieldsIf P ops C oi v a → (Shut t L → S w) →
      wpGate P md ops Q S t n (upOne L i) (a.put oi.dst v) w → wpGate P md ops Q S t (n + 1) L a w := by
  have itself : ∀ (m : Nat) (L : Array Bool) (a : Act) (w : World), G L → YieldsIf P ops C oi v a → (Shut t L → S w) → wpGate P md ops Q S t m (upOne L i) (a.put oi.dst v) w →
      wpOp P ops Q i (fun a' w' => (Shut t (upOne L i) → S w') ∧ wpGate P md ops Q S t m (upOne L i) a' w') a w :=
    fun m L a w g y s H => y.wpOp hi (hC L w g s) ⟨fun h => s ((shut_up hit).1 h), H⟩
  induction n with
  | zero =>
    intro L a w _ g hr y s H
    refine ⟨fun h => (by rw [h] at hr; cases hr), fun j hj => ?_⟩
    rcases Nat.decEq j i with hne | rfl
    · have := ready_mono hj hne
      unfold upOne at H
      rw [H.1] at this
      cases this
    · exact itself 0 L a w g y s H
  | succ n ih =>
    intro L a w al g hr y s H
    refine ⟨fun h => (by rw [h] at hr; cases hr), fun j hj => ?_⟩
    rcases Nat.decEq j i with hne | rfl
    · obtain ⟨hun, oj, hoj, _⟩ := mem_ready.1 hj
      have rest := H.2 j (ready_mono hj hne)
      have moved := wpOp_putIf hoj (al j oj hoj hne hun (no_wait hr hj hoj)) (fun cs b => hsel i oi cs b hi) (fun cs b => hsel j oj cs b hoj) hQ y rest
      refine wpOp_mono (fun a' w' k => ?_) moved
      have s' : Shut t (upOne L j) → S w' := fun h => k.2.1 (by rw [up_comm L (Ne.symm hne), shut_up hit]; exact h)
      exact ⟨s', ih (upOne L j) a' w' (al.up hun) (hG L j g hr hj hne) (ready_mono hr (Ne.symm hne)) k.1 s' (by rw [← up_comm L (Ne.symm hne)]; exact k.2.2)⟩
    · exact itself (n + 1) L a w g y s H
/-- The gate waits for i. -/
def waitsFor (md : Region.Mode) (ops : Array Oper) (t i : Nat) : Bool := match ops[t]? with
  | some o => o.after.toList.any fun e => Region.binds md e && decide (e.on = i)
  | none => false
theorem gate_take0 {i : Nat} {oi : Oper} {v : Value} {n : Nat} {L : Array Bool} {a : Act} {w : World} (hi : ops[i]? = some oi) (hit : decide (i ≠ t) = true)
    (hs : Region.noSelect ops = true) (hf : Region.free md ops L i = true) (hr : (Region.ready md ops L).contains i = true)
    (hQ : ∀ c a w, Q (.panic c) (a.put oi.dst v) w → Q (.panic c) a w) (hw : Region.wanted oi (yielded ops a.tmps) = true) (hy : ∀ w, (execOp a.eval oi).run P w = .ok (.value v) w) (hS : S w)
    (h : wpGate P md ops Q S t n (upOne L i) (a.put oi.dst v) w) : wpGate P md ops Q S t (n + 1) L a w :=
  gate_move (C := fun _ => True) (G := fun _ => True) (of_decide_eq_true hit) hi (Region.noSelect_spec hs) hQ (fun _ _ _ _ => trivial) (fun _ _ _ _ _ _ => trivial) n L a w (Region.free_spec hi hf) trivial (by simpa using hr) (.inl ⟨hw, fun w _ => hy w⟩) (fun _ => hS) h
theorem gate_take {i : Nat} {oi : Oper} {v : Value} {n : Nat} {L : Array Bool} {a : Act} {w : World} (hi : ops[i]? = some oi) (hit : decide (i ≠ t) = true) (hwt : waitsFor md ops t i = true) (hlt : L.getD t true = false)
    (hs : Region.noSelect ops = true) (hf : Region.free md ops L i = true) (hr : (Region.ready md ops L).contains i = true)
    (hQ : ∀ c a w, Q (.panic c) (a.put oi.dst v) w → Q (.panic c) a w) (hw : Region.wanted oi (yielded ops a.tmps) = true) (hy : ∀ w, S w → (execOp a.eval oi).run P w = .ok (.value v) w) (hS : S w)
    (h : wpGate P md ops Q S t n (upOne L i) (a.put oi.dst v) w) : wpGate P md ops Q S t (n + 1) L a w := by
  have hG : ∀ L j, Shut t L → i ∈ Region.ready md ops L → j ∈ Region.ready md ops L → j ≠ i → Shut t (upOne L j) := by
    intro L j hL hri hrj _
    refine (shut_up ?_).2 hL
    rintro rfl
    unfold waitsFor at hwt
    split at hwt
    · rename_i o ho
      obtain ⟨e, he, hb⟩ := List.any_eq_true.1 hwt
      simp at hb
      exact no_wait hri hrj ho e (by simpa using he) hb.1 hb.2
    · cases hwt
  exact gate_move (C := S) (G := Shut t) (of_decide_eq_true hit) hi (Region.noSelect_spec hs) hQ (fun _ _ g s => s g) hG n L a w (Region.free_spec hi hf) hlt (by simpa using hr) (.inl ⟨hw, hy⟩) (fun _ => hS) h
/-- One operation, whatever it is: a value, a call that turns nothing, a store. -/
theorem wpOp_value {i : Nat} {o : Oper} {v : Value} {a : Act} {w w' : World} {K : Act → World → Prop} (hi : ops[i]? = some o) (hw : Region.wanted o (yielded ops a.tmps) = true) (hr : (execOp a.eval o).run P w = .ok (.value v) w') (h : K (a.put o.dst v) w') : wpOp P ops Q i K a w := by
  unfold wpOp
  simp only [hi, hw, if_true, Oper.wp, hr, Oper.upon]
  exact .inl h
theorem wpOp_skip {i : Nat} {o : Oper} {a : Act} {w w' : World} {K : Act → World → Prop} (hi : ops[i]? = some o) (hw : Region.wanted o (yielded ops a.tmps) = true) (hr : (execOp a.eval o).run P w = .ok .skip w') (h : K (a.put o.dst undef) w') : wpOp P ops Q i K a w := by
  unfold wpOp
  simp only [hi, hw, if_true, Oper.wp, hr, Oper.upon]
  exact .inl h
end
theorem gen_act {P : Program} {c : Code} {Q : Exit → Act → World → Prop} {a : Act} {w : World} (h : ∀ a0 : Act, a0 = a → Code.wp P c Q a0 w) : Code.wp P c Q a w := h a rfl
theorem evp_same (a : Act) (d : Nat) (v : Value) (h : d < a.tmps.size) : (a.put (some d) v).eval (.tmp d) = v := by
  simp [Act.eval, Act.put, Array.getD, h]
theorem evp_ne (a : Act) (d d' : Nat) (v : Value) (h : d ≠ d') : (a.put (some d) v).eval (.tmp d') = a.eval (.tmp d') :=
  Act.eval_put fun x hx he => by
    injection hx with hx
    injection he with he
    exact h (hx.trans he.symm)
theorem szp (a : Act) (x : Option Tmp) (v : Value) : (a.put x v).tmps.size = a.tmps.size := by
  cases x <;> simp [Act.put]
theorem own_one (w W : World) (hb : w.heap.size ≤ W.heap.size) (z : Int) : (W.alloc (.cells #[.int .u8 z] 5)).ownsRow w.heap.size 5 1 (.slice (some ⟨W.heap.size, 0, none⟩) 1 1) 1 (([z] : List Int).map (Value.int .u8)) :=
  ⟨rfl, .inr ⟨W.heap.size, 1, _, rfl, hb, heap_alloc_new W _, Nat.le_refl _, by unfold maxLen; omega, rfl, rfl⟩⟩
theorem one_more (w W : World) (A : Option Addr) (cap p : Nat) (out : List Int) (hp : out.length = p) (hown : W.ownsRow w.heap.size 5 1 (.slice A p cap) p (out.map (Value.int .u8))) (hb : Below w.heap.size w W) (z : Int) (hsz : p + 1 ≤ 1000000000) :
    ∃ A' cap' W', (Builtin.append_ #[96, 96] 96 #[.slice A p cap, .slice (some ⟨W.heap.size, 0, none⟩) 1 1]).run Try.prog (W.alloc (.cells #[.int .u8 z] 5)) = .ok (.slice A' (p + 1) cap') W' ∧
      p + 1 ≤ cap' ∧ cap' ≤ 9223372036854775807 ∧ (A' = none → cap' = 0) ∧ W'.ownsRow w.heap.size 5 1 (.slice A' (p + 1) cap') (p + 1) ((out ++ [z]).map (Value.int .u8)) ∧ Below w.heap.size w W' := by
  have hs := hb.size
  have hbel : Below w.heap.size w (W.alloc (.cells #[.int .u8 z] 5)) := hb.alloc hs _
  obtain ⟨v', W', hrun, ho, hg, hv⟩ := run_append_bytes (W.alloc (.cells #[.int .u8 z] 5)) w.heap.size _ p out (own_alloc hown _) (by simp; omega) (some ⟨W.heap.size, 0, none⟩) 1 1 [z] rfl
    (RdB.new rfl (fun k y hy => by
      match k with
      | 0 => simp at hy; subst hy; rfl
      | k + 1 => simp at hy)) hsz
  obtain ⟨A', cap', rfl, h1, h2, h3⟩ := own_form ho
  exact ⟨A', cap', W', hrun, h1, h2, h3, ho, hbel.grown hg (by simp; omega) (own_base hown)⟩
set_option maxHeartbeats 2000000 in
theorem clean_any (s : ByteArray) (tabs : Bool) (w : World) (hs : s.size ≤ 1000000) (v : Bool) (hv : inF tabs s.size (byt s) = v) :
    Calls Try.prog 109 #[.string s, .bool tabs] w fun e w' => e = .returned (.bool v) ∧ Below w.heap.size w w' := by
  obtain ⟨cap, W, hby⟩ := bytes_of s (by omega) w
  obtain ⟨hrun, hle, hmax, hrd, hbel⟩ := hby
  have HV := Lib.hid hv
  have HL : Hid ((byt s).length = s.size) := byt_len s
  have HY := Lib.hid (byt_byte s)
  have HR := Lib.hid hrd
  have HB := Lib.hid hbel
  clear hv hrd hbel
  generalize hzs : byt s = zs at *
  clear hzs
  generalize s.size = n at *
  go_enter Try.func109, Try.ntmps109
  go_wp2
  clear hrun
  go_loop [4, 5] (fun r s => ∃ (k m cc : Nat) (A' : Option Addr), k + m = n ∧ k + cc = cap ∧ s = .slice A' m cc ∧ r = .bool false ∧ Hid (inF tabs n (zs.drop k) = v ∧ RdB W A' (zs.drop k) ∧ (A' = none → cc = 0))) (fun _ s => lenV s)
  case atStart => exact ⟨0, n, cap, _, by omega, by omega, rfl, rfl, by simpa using HV.out, by simpa using HR.out, fun h => by cases h⟩
  case round =>
    obtain ⟨k, m, cc, A', hkm, hkc, rfl, rfl, HK⟩ := hrel
    have hmc : m ≤ cc := by omega
    have hcc : cc ≤ 9223372036854775807 := by omega
    have HKM := Lib.hid (And.intro hkm hkc)
    have hkn : k ≤ n := by omega
    clear hkm hkc
    by_cases h0 : 0 < m
    · have hd : (0 : Int) < (m : Int) := by omega
      obtain ⟨r, j, ok, hrf, hj1, hj2, hbad, hgood⟩ := in_round tabs n k zs HL.out (by have := HKM.out; omega)
      have hly : (zs.drop k).length = m := by have := HKM.out; rw [List.length_drop, HL.out]; omega
      have hjm : j ≤ m := by have := HKM.out; omega
      have CR := Lib.hid (refRune_at A' m cc (zs.drop k) W r (j : Int) ok hly hmc hcc (HY.out.drop k) HK.out.2.1 hrf)
      obtain ⟨A2, hsl, hA2, hrd⟩ := slice_lI A' m cc j (j : Int) rfl (zs.drop k) hly hmc HK.out.2.2 hjm
      have hr2 := hrd W HK.out.2.1
      rw [List.drop_drop] at hr2
      rw [HK.out.1] at hbad hgood
      have HBAD := Lib.hid hbad
      have HGOOD := Lib.hid hgood
      have H2 := Lib.hid (And.intro hr2 hA2)
      clear hbad hgood hr2 hA2 hrd hrf hly HK
      have ways : ok = false ∨ (ok = true ∧ prt r = false) ∨ (ok = true ∧ prt r = true ∧ r = 9 ∧ tabs = false) ∨ (ok = true ∧ prt r = true ∧ r = 10) ∨ (ok = true ∧ prt r = true ∧ r = 13) ∨
          (ok = true ∧ prt r = true ∧ r = 9 ∧ tabs = true) ∨ (ok = true ∧ prt r = true ∧ (r == 9) = false ∧ (r == 10) = false ∧ (r == 13) = false) := by
        rcases in_ways ok r with h | h | ⟨h1, h2, h3⟩ | h | h | h
        · exact .inl h
        · exact .inr (.inl h)
        · cases tabs
          · exact .inr (.inr (.inl ⟨h1, h2, h3, rfl⟩))
          · exact .inr (.inr (.inr (.inr (.inr (.inl ⟨h1, h2, h3, rfl⟩)))))
        · exact .inr (.inr (.inr (.inl h)))
        · exact .inr (.inr (.inr (.inr (.inl h))))
        · exact .inr (.inr (.inr (.inr (.inr (.inr h)))))
      rcases ways with rfl | ⟨rfl, hp⟩ | ⟨rfl, hp, rfl, rfl⟩ | ⟨rfl, hp, rfl⟩ | ⟨rfl, hp, rfl⟩ | ⟨rfl, hp, rfl, rfl⟩ | ⟨rfl, hp, h9, h10, h13⟩
      case inr.inr.inr.inr.inr.inr =>
        have hf := HGOOD.out (by simp [hp, h9, h10, h13])
        have HF := Lib.hid hf
        clear hf HGOOD HBAD
        go_wp2_with (first | (go_at_call 83; refine CR.out.mono ?_; rintro e w' ⟨rfl, rfl⟩) | (go_at_call 84; refine (refPrt_any _ _).mono ?_; rintro e w' ⟨rfl, rfl⟩))
        go_round
        case rel => exact ⟨k + j, m - j, cc - j, A2, by have := HKM.out; omega, by have := HKM.out; omega, rfl, rfl, HF.out.symm, H2.out.1, H2.out.2⟩
        case measure => simp [lenV]; omega
      case inr.inr.inr.inr.inr.inl =>
        have hf := HGOOD.out (by simp [hp])
        have HF := Lib.hid hf
        clear hf HGOOD HBAD
        go_wp2_with (first | (go_at_call 83; refine CR.out.mono ?_; rintro e w' ⟨rfl, rfl⟩) | (go_at_call 84; refine (refPrt_any _ _).mono ?_; rintro e w' ⟨rfl, rfl⟩))
        go_round
        case rel => exact ⟨k + j, m - j, cc - j, A2, by have := HKM.out; omega, by have := HKM.out; omega, rfl, rfl, HF.out.symm, H2.out.1, H2.out.2⟩
        case measure => simp [lenV]; omega
      all_goals
        have hf := HBAD.out (by simp [*])
        subst hf
        clear HGOOD HBAD hsl H2
        go_wp2_with (first | (go_at_call 83; refine CR.out.mono ?_; rintro e w' ⟨rfl, rfl⟩) | (go_at_call 84; refine (refPrt_any _ _).mono ?_; rintro e w' ⟨rfl, rfl⟩))
        go_ret
        exact ⟨rfl, HB.out⟩
    · obtain rfl : m = 0 := by omega
      have hf : v = true := by
        rw [← HK.out.1, List.drop_of_length_le (by have := HKM.out; rw [HL.out]; omega)]; exact inF_nil _ _
      subst hf
      go_wp2
      go_ret
      exact ⟨rfl, HB.out⟩
open Go.RowKit Go.ChangeShapes Go.WideShapes
theorem text_cells : Try.prog.cellsOf 9 = 1 := by kernel_rfl
/-- What a slice of texts is to a walk. -/
def IsTxs (w : World) (a : Option Addr) (len cap : Nat) (l : List ByteArray) : Prop := l.length = len ∧ RdC w a (l.map Value.string) ∧ (∀ s ∈ l, s.size ≤ maxLen) ∧ len ≤ cap ∧ cap ≤ 9223372036854775807 ∧ (a = none → cap = 0)
theorem open_texts {H : Type} {enc : TypeId × Value → H} {w : World} {base : Nat} {spare : Nat → Bool} {held : Bool} {a : Option Addr} {len cap : Nat} {d : DataW H} {p : List MemPlace}
    (h : DataW.Trod enc Try.prog w base spare held 23 (.slice a len cap) d p) : ∃ l, IsTxs w a len cap l := by
  obtain ⟨fuel, hf⟩ := h
  rcases open_strings Try.underlying23 Try.underlying9 text_cells hf with ⟨hcs, _⟩ | ⟨x, l', c', ss, hcs, _, hl, hm, hz, _, hcell, hsz⟩
  · simp [Value.cells] at hcs
    obtain ⟨rfl, rfl, rfl⟩ := hcs
    exact ⟨[], rfl, RdC.nil _ _, (by intro y hy; simp at hy), Nat.le_refl _, by omega, fun _ => rfl⟩
  · simp [Value.cells] at hcs
    obtain ⟨rfl, rfl, rfl⟩ := hcs
    have hlm : len ≤ ss.length := by rw [hz]; split <;> omega
    unfold maxLen at hm
    refine ⟨ss.take len, by rw [List.length_take]; omega, ?_, fun s hs => hsz s (List.mem_of_mem_take hs), hl, by omega, fun h => by cases h⟩
    intro k v hk
    rw [List.getElem?_map, List.getElem?_take] at hk
    split at hk
    · rename_i hkl
      have hk' : k < ss.length := by omega
      have hc := hcell k hk'
      have hg : ss[k]? = some (ss.getD k ByteArray.empty) := by rw [List.getElem?_eq_getElem hk']; simp [List.getD, hk']
      rw [hg] at hk
      simp only [Option.map_some, Option.some.injEq] at hk
      subst hk
      have h0 := hcell 0 (by omega)
      obtain ⟨b, off, spot⟩ := x
      have hspot : spot = none := by simpa [Addr.add] using World.cell?_spot h0
      subst hspot
      rw [add_plain] at hc
      exact ⟨b, off, rfl, hc⟩
    · simp at hk
theorem IsTxs.at_ {w : World} {a : Option Addr} {len cap : Nat} {l : List ByteArray} (h : IsTxs w a len cap l) (hl : 0 < len) : ∃ b off, a = some ⟨b, off, none⟩ ∧ ∀ k, k < len → ∃ s, s.size ≤ maxLen ∧ w.cell? ⟨b, off + k, none⟩ = some (.string s) := by
  obtain ⟨h1, h2, h3, _⟩ := h
  obtain ⟨b, off, e, hc⟩ := h2.addr (by simp; omega)
  refine ⟨b, off, e, fun k hk => ?_⟩
  have hk' : k < l.length := by omega
  exact ⟨l[k], h3 _ (List.getElem_mem hk'), hc k _ (by simp [hk'])⟩
/-- A slice of numbers that came in, read one by one. -/
theorem ints_rd {w : World} {a : Option Addr} {len cap : Nat} {zs : List Int} (h : (a = none ∧ len = 0 ∧ cap = 0 ∧ zs = []) ∨
      ∃ x, a = some x ∧ len ≤ cap ∧ cap ≤ maxLen ∧ zs.length = cap ∧ (∀ i, i < zs.length → w.cell? (x.add i) = some (.int .i64 (zs.getD i 0))) ∧ ∀ n ∈ zs, (Lit.int .i64 n).wf = true) :
    len ≤ cap ∧ cap ≤ 9223372036854775807 ∧ (0 < len → ∃ b off, a = some ⟨b, off, none⟩ ∧ ∀ k, k < len → ∃ z : Int, (-9223372036854775808 ≤ z ∧ z ≤ 9223372036854775807) ∧ w.cell? ⟨b, off + k, none⟩ = some (.int .i64 z)) := by
  rcases h with ⟨rfl, rfl, rfl, rfl⟩ | ⟨x, rfl, hl, hm, hz, hcell, hwz⟩
  · exact ⟨Nat.le_refl _, by omega, fun h => by omega⟩
  · unfold maxLen at hm
    refine ⟨hl, by omega, fun h0 => ?_⟩
    have hc0 := hcell 0 (by omega)
    obtain ⟨b, off, spot⟩ := x
    have hspot : spot = none := by simpa [Addr.add] using World.cell?_spot hc0
    subst hspot
    refine ⟨b, off, rfl, fun k hk => ?_⟩
    have hc := hcell k (by omega)
    rw [add_plain] at hc
    exact ⟨_, bounds_i64 (hwz _ (List.mem_of_getElem? (getD_at (by omega)))), hc⟩
end Go.Proofs.Ytcddlconcngjlaa
