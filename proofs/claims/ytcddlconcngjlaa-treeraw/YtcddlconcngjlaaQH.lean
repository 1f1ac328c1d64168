/- The texts that scholiumplay.Inline makes: nodes on a line, as a grammar; how long they are. No program. · The maker of a play's text in memory: its own block, the names that it has given. · A plan's numbers and texts, taken one by one; blanks. · A maker's scalar, key, and what stands ahead of a node. · The maker's node on a line; scholiumplay.Inline. · A plan that came in: what its reading tells of memory. -/
import Derived.Test.YtcddlconcngjlaaQB
import Derived.Test.YtcddlconcngjlaaQC
import Derived.Test.YtcddlconcngjlaaQF
import Derived.Test.YtcddlconcngjlaaQA
import Derived.Deep.QuietTactic
import Derived.BigQuiet
import Derived.Deep.Slices
import Derived.Deep.Fields
import Derived.ChangeSame
import Derived.ChangeSlices
set_option linter.unusedSimpArgs false
set_option linter.unusedVariables false
namespace Go.Proofs.Ytcddlconcngjlaa
open Go.RowKit
set_option linter.unusedVariables false
set_option maxRecDepth 100000
/-- A scalar. -/
inductive PyS : List Int → Prop
  | dbl (t y : List Int) (ht : Byte t) (hl : t.length ≤ 20) (h : putD t = some y) : PyS y
  | sgl (t : List Int) (ht : Byte t) (hl : t.length ≤ 20) (h : inF true t.length t = true) : PyS (Sg.putF t)
  | pln (y : List Int) (hy : Byte y) (hl : y.length ≤ 20) (h : validF y true = true) : PyS y
/-- What stands ahead of a node. -/
inductive PyP : List Int → Prop
  | none : PyP []
  | anc (c : Int) (h1 : 97 ≤ c) (h2 : c ≤ 122) : PyP [38, 110, c, 32]
  | tag (t : List Int) (h : t ∈ [[33, 120, 32], [33, 33, 115, 116, 114, 32], [33, 32], [33, 33, 109, 97, 112, 32], [33, 33, 105, 110, 116, 32]]) : PyP t
/-- A mapping's key. -/
def PyK (l : List Int) : Prop := (∃ c : Int, 97 ≤ c ∧ c ≤ 104 ∧ (l = [34, c, 32, 113, 34] ∨ l = [39, c, 39] ∨ l = [c, 32, c] ∨ l = [c])) ∨ l ∈ [[97], [49], [116, 114, 117, 101], [98]]
/-- A sequence's items. -/
inductive PyI (C : List Int → Prop) : Nat → List Int → Prop
  | nil : PyI C 0 []
  | one (x : List Int) (h : C x) : PyI C 1 x
  | more (n : Nat) (l x : List Int) (k : Nat) (hl : PyI C (n + 1) l) (hx : C x) (hk1 : 1 ≤ k) (hk2 : k ≤ 2) : PyI C (n + 2) (l ++ 44 :: (List.replicate k 32 ++ x))
/-- A mapping's key, colon and value. -/
def PyE1 (C : List Int → Prop) (l : List Int) : Prop := ∃ (k v : List Int) (j : Nat), PyK k ∧ (v = [] ∨ C v) ∧ 1 ≤ j ∧ j ≤ 2 ∧ l = k ++ 58 :: (List.replicate j 32 ++ v)
inductive PyE (C : List Int → Prop) : Nat → List Int → Prop
  | nil : PyE C 0 []
  | one (x : List Int) (h : PyE1 C x) : PyE C 1 x
  | more (n : Nat) (l x : List Int) (hl : PyE C (n + 1) l) (hx : PyE1 C x) : PyE C (n + 2) (l ++ 44 :: 32 :: x)
def PyL (l : List Int) : Prop := (∃ p s, PyP p ∧ PyS s ∧ l = p ++ s) ∨ ∃ c : Int, 97 ≤ c ∧ c ≤ 122 ∧ l = [42, 110, c, 32]
/-- A node, so many collections in one another at most. -/
def PyN : Nat → List Int → Prop
  | 0, l => PyL l
  | d + 1, l => PyL l ∨ (∃ (p its : List Int) (n e : Nat), PyP p ∧ n ≤ 3 ∧ PyI (PyN d) n its ∧ e ≤ 1 ∧ l = p ++ 91 :: (its ++ (List.replicate e 32 ++ [93]))) ∨
      (∃ (p es : List Int) (n e : Nat), PyP p ∧ n ≤ 3 ∧ PyE (PyN d) n es ∧ e ≤ 1 ∧ l = p ++ 123 :: (List.replicate e 32 ++ (es ++ [125])))
theorem PyN.leaf : ∀ {d : Nat} {l : List Int}, PyL l → PyN d l
  | 0, _, h => h
  | _ + 1, _, h => .inl h
theorem pyS_len {l : List Int} (h : PyS l) : l.length ≤ 202 := by
  cases h with
  | dbl t y ht hl h => have := put_size ht h; omega
  | sgl t ht hl h =>
    have : ∀ t : List Int, (Sg.dbl t).length ≤ 2 * t.length := by
      intro t
      induction t with
      | nil => simp [Sg.dbl]
      | cons c t ih => unfold Sg.dbl; split <;> simp only [List.length_cons] <;> omega
    have := this t
    unfold Sg.putF
    simp only [List.length_cons, List.length_append, List.length_nil]
    omega
  | pln y hy hl h => omega
theorem pyP_len {l : List Int} (h : PyP l) : l.length ≤ 6 := by
  cases h with
  | none => simp
  | anc c => simp
  | tag t h =>
    simp only [List.mem_cons, List.not_mem_nil, or_false] at h
    rcases h with rfl | rfl | rfl | rfl | rfl <;> simp
theorem pyK_len {l : List Int} (h : PyK l) : 1 ≤ l.length ∧ l.length ≤ 5 := by
  rcases h with ⟨c, _, _, rfl | rfl | rfl | rfl⟩ | h
  · simp
  · simp
  · simp
  · simp
  · simp only [List.mem_cons, List.not_mem_nil, or_false] at h
    rcases h with rfl | rfl | rfl | rfl <;> simp
theorem pyL_len {l : List Int} (h : PyL l) : l.length ≤ 208 := by
  rcases h with ⟨p, s, hp, hs, rfl⟩ | ⟨c, _, _, rfl⟩
  · have := pyP_len hp; have := pyS_len hs; rw [List.length_append]; omega
  · simp
theorem pyI_len {C : List Int → Prop} {m : Nat} (h : ∀ x, C x → x.length ≤ m) : ∀ {n : Nat} {l : List Int}, PyI C n l → l.length ≤ n * (m + 3) := by
  intro n l hl
  induction hl with
  | nil => simp
  | one x hx => have := h x hx; omega
  | more n l x k hl hx hk1 hk2 ih =>
    have := h x hx
    rw [List.length_append, List.length_cons, List.length_append, List.length_replicate, Nat.add_mul n 2]
    rw [Nat.add_mul n 1] at ih
    omega
theorem pyE1_len {C : List Int → Prop} {m : Nat} (h : ∀ x, C x → x.length ≤ m) {l : List Int} (hl : PyE1 C l) : l.length ≤ m + 8 := by
  obtain ⟨k, v, j, hk, hv, h1, h2, rfl⟩ := hl
  have := pyK_len hk
  have : v.length ≤ m := by
    rcases hv with rfl | hv
    · simp
    · exact h v hv
  rw [List.length_append, List.length_cons, List.length_append, List.length_replicate]
  omega
theorem pyE_len {C : List Int → Prop} {m : Nat} (h : ∀ x, C x → x.length ≤ m) : ∀ {n : Nat} {l : List Int}, PyE C n l → l.length ≤ n * (m + 10) := by
  intro n l hl
  induction hl with
  | nil => simp
  | one x hx => have := pyE1_len h hx; omega
  | more n l x hl hx ih =>
    have := pyE1_len h hx
    rw [List.length_append, List.length_cons, List.length_cons, Nat.add_mul n 2]
    rw [Nat.add_mul n 1] at ih
    omega
def pySz : Nat → Nat
  | 0 => 208
  | d + 1 => 3 * pySz d + 60
theorem pySz_ge : ∀ d, 208 ≤ pySz d
  | 0 => Nat.le_refl _
  | d + 1 => by have := pySz_ge d; unfold pySz; omega
theorem pyN_len : ∀ (d : Nat) (l : List Int), PyN d l → l.length ≤ pySz d
  | 0, l, h => pyL_len h
  | d + 1, l, h => by
    have hg := pySz_ge d
    unfold pySz
    rcases h with h | ⟨p, its, n, e, hp, hn, hi, he, rfl⟩ | ⟨p, es, n, e, hp, hn, hi, he, rfl⟩
    · have := pyL_len h; omega
    · have h1 := pyP_len hp
      have h2 := pyI_len (pyN_len d) hi
      have h3 : n * (pySz d + 3) ≤ 3 * (pySz d + 3) := Nat.mul_le_mul_right _ hn
      simp only [List.length_append, List.length_cons, List.length_replicate, List.length_nil]
      omega
    · have h1 := pyP_len hp
      have h2 := pyE_len (pyN_len d) hi
      have h3 : n * (pySz d + 10) ≤ 3 * (pySz d + 10) := Nat.mul_le_mul_right _ hn
      simp only [List.length_append, List.length_cons, List.length_replicate, List.length_nil]
      omega
/-- What a plan's two slices say: numbers and texts that came in. -/
structure PlanIn (w : World) (A1 : Option Addr) (n1 c1 : Nat) (A2 : Option Addr) (n2 c2 : Nat) : Prop where
  num : 0 < n1 → ∃ b off, A1 = some ⟨b, off, none⟩ ∧ ∀ k, k < n1 → ∃ z : Int, w.cell? ⟨b, off + k, none⟩ = some (.int .i64 z) ∧ -9223372036854775808 ≤ z ∧ z ≤ 9223372036854775807
  txt : 0 < n2 → ∃ b off, A2 = some ⟨b, off, none⟩ ∧ ∀ k, k < n2 → ∃ s : ByteArray, w.cell? ⟨b, off + k, none⟩ = some (.string s) ∧ s.size ≤ maxLen
  le1 : n1 ≤ c1
  max1 : c1 ≤ 9223372036854775807
  le2 : n2 ≤ c2
  max2 : c2 ≤ 9223372036854775807
/-- A name that a maker gives. -/
def NameOk (s : ByteArray) : Prop := ∃ c : Int, 97 ≤ c ∧ c ≤ 122 ∧ byt s = [110, c]
theorem NameOk.size {s : ByteArray} (h : NameOk s) : s.size = 2 := by
  obtain ⟨c, _, _, h⟩ := h
  rw [← byt_len, h]; rfl
/-- The maker's block, and what it leads to. -/
structure MkS (w : World) (A1 : Option Addr) (n1 c1 : Nat) (A2 : Option Addr) (n2 c2 : Nat) (R : Nat) (W : World) (i t : Nat) (left : Int) (nm : Nat) (m : Nat) (ov : Value) (os : List ByteArray) : Prop where
  blk : W.heap[R]? = some (.cells #[.slice A1 n1 c1, .slice A2 n2 c2, .int .i64 (i : Int), .int .i64 (t : Int), .int .i64 left, .int .i64 (nm : Int), ov] 88)
  ge : w.heap.size ≤ R
  own : W.ownsRow w.heap.size 9 1 ov m (os.map Value.string)
  len : os.length = m
  good : ∀ s ∈ os, NameOk s
  off : ov.ownBlock ≠ some R
  bel : Below w.heap.size w W
section
variable {w W W' : World} {A1 A2 : Option Addr} {n1 c1 n2 c2 R i t nm m : Nat} {left : Int} {ov : Value} {os : List ByteArray}
theorem MkS.lt (h : MkS w A1 n1 c1 A2 n2 c2 R W i t left nm m ov os) : R < W.heap.size := (Array.getElem?_eq_some_iff.1 h.blk).1
theorem MkS.c0 (h : MkS w A1 n1 c1 A2 n2 c2 R W i t left nm m ov os) : W.cell? ⟨R, 0, none⟩ = some (.slice A1 n1 c1) := by simp [World.cell?, h.blk]
theorem MkS.c1' (h : MkS w A1 n1 c1 A2 n2 c2 R W i t left nm m ov os) : W.cell? ⟨R, 1, none⟩ = some (.slice A2 n2 c2) := by simp [World.cell?, h.blk]
theorem MkS.c2' (h : MkS w A1 n1 c1 A2 n2 c2 R W i t left nm m ov os) : W.cell? ⟨R, 2, none⟩ = some (.int .i64 (i : Int)) := by simp [World.cell?, h.blk]
theorem MkS.c3 (h : MkS w A1 n1 c1 A2 n2 c2 R W i t left nm m ov os) : W.cell? ⟨R, 3, none⟩ = some (.int .i64 (t : Int)) := by simp [World.cell?, h.blk]
theorem MkS.c4 (h : MkS w A1 n1 c1 A2 n2 c2 R W i t left nm m ov os) : W.cell? ⟨R, 4, none⟩ = some (.int .i64 left) := by simp [World.cell?, h.blk]
theorem MkS.c5 (h : MkS w A1 n1 c1 A2 n2 c2 R W i t left nm m ov os) : W.cell? ⟨R, 5, none⟩ = some (.int .i64 (nm : Int)) := by simp [World.cell?, h.blk]
theorem MkS.c6 (h : MkS w A1 n1 c1 A2 n2 c2 R W i t left nm m ov os) : W.cell? ⟨R, 6, none⟩ = some ov := by simp [World.cell?, h.blk]
theorem MkS.z (h : MkS w A1 n1 c1 A2 n2 c2 R W i t left nm m ov os) (j : Nat) : W.frozen? ⟨R, j, none⟩ = false := by simp [World.frozen?, h.blk]
theorem MkS.below (h : MkS w A1 n1 c1 A2 n2 c2 R W i t left nm m ov os) (hb : Below W.heap.size W W') : MkS w A1 n1 c1 A2 n2 c2 R W' i t left nm m ov os :=
  ⟨(hb.block R h.lt).trans h.blk, h.ge, own_below h.own hb, h.len, h.good, h.off, below_step h.bel hb⟩
theorem MkS.store (h : MkS w A1 n1 c1 A2 n2 c2 R W i t left nm m ov os) (j : Nat) (u : Value) : (W.setCell ⟨R, j, none⟩ u).ownsRow w.heap.size 9 1 ov m (os.map Value.string) ∧ Below w.heap.size w (W.setCell ⟨R, j, none⟩ u) :=
  ⟨own_setCell h.own _ u (fun k hk e => h.off (by rw [hk]; exact congrArg some e)), h.bel.setCell (p := ⟨R, j, none⟩) h.ge u⟩
theorem MkS.setI (h : MkS w A1 n1 c1 A2 n2 c2 R W i t left nm m ov os) (i' : Nat) : MkS w A1 n1 c1 A2 n2 c2 R (W.setCell ⟨R, 2, none⟩ (.int .i64 (i' : Int))) i' t left nm m ov os := by
  refine ⟨?_, h.ge, (h.store 2 _).1, h.len, h.good, h.off, (h.store 2 _).2⟩
  have := h.blk; simp [World.setCell, Array.getElem?_modify, this]
theorem MkS.setT (h : MkS w A1 n1 c1 A2 n2 c2 R W i t left nm m ov os) (t' : Nat) : MkS w A1 n1 c1 A2 n2 c2 R (W.setCell ⟨R, 3, none⟩ (.int .i64 (t' : Int))) i t' left nm m ov os := by
  refine ⟨?_, h.ge, (h.store 3 _).1, h.len, h.good, h.off, (h.store 3 _).2⟩
  have := h.blk; simp [World.setCell, Array.getElem?_modify, this]
theorem MkS.setL (h : MkS w A1 n1 c1 A2 n2 c2 R W i t left nm m ov os) (l' : Int) : MkS w A1 n1 c1 A2 n2 c2 R (W.setCell ⟨R, 4, none⟩ (.int .i64 l')) i t l' nm m ov os := by
  refine ⟨?_, h.ge, (h.store 4 _).1, h.len, h.good, h.off, (h.store 4 _).2⟩
  have := h.blk; simp [World.setCell, Array.getElem?_modify, this]
theorem MkS.setN (h : MkS w A1 n1 c1 A2 n2 c2 R W i t left nm m ov os) (n' : Nat) : MkS w A1 n1 c1 A2 n2 c2 R (W.setCell ⟨R, 5, none⟩ (.int .i64 (n' : Int))) i t left n' m ov os := by
  refine ⟨?_, h.ge, (h.store 5 _).1, h.len, h.good, h.off, (h.store 5 _).2⟩
  have := h.blk; simp [World.setCell, Array.getElem?_modify, this]
theorem text_info' : (Try.prog.info? 9).map (fun i => (i.zero, i.size, i.bytes)) = some (some (.string ⟨#[]⟩), 1, 16) := by kernel_rfl
/-- A name more. -/
theorem MkS.open_ (h : MkS w A1 n1 c1 A2 n2 c2 R W i t left nm m ov os) (hm : m ≤ 1000000) (s : ByteArray) (hs : NameOk s) : ∃ v' W', (Builtin.append_ #[23, 23] 23 #[ov, .slice (some ⟨W.heap.size, 0, none⟩) 1 1]).run Try.prog (W.alloc (.cells #[.string s] 9)) = .ok v' W' ∧
    W'.frozen? ⟨R, 6, none⟩ = false ∧ W'.cell? ⟨R, 6, none⟩ = some ov ∧ (∃ A' cap', v' = .slice A' (m + 1) cap') ∧ MkS w A1 n1 c1 A2 n2 c2 R (W'.setCell ⟨R, 6, none⟩ v') i t left nm (m + 1) v' (os ++ [s]) := by
  obtain ⟨W1, hW1⟩ : ∃ W1, W.alloc (.cells #[.string s] 9) = W1 := ⟨_, rfl⟩
  have hb1 : Below W.heap.size W W1 := by rw [← hW1]; exact (Below.refl _ _).alloc (Nat.le_refl _) _
  have hs1 : W.heap.size < W1.heap.size := by rw [← hW1]; simp
  have h1 := h.below hb1
  have hrd : RdC W1 (some ⟨W.heap.size, 0, none⟩) [.string s] := by
    rw [← hW1]
    refine RdC.new rfl fun k u hk => ?_
    rw [← hk, List.getElem?_toArray]
  obtain ⟨v', W', hrun, hown, hg, hv⟩ := run_append_rows Try.underlying23 text_info' rfl (by omega) (by omega) W1 w.heap.size ov m (os.map Value.string) h1.own h1.bel.size (some ⟨W.heap.size, 0, none⟩) 1 1 [.string s] rfl hrd
    (by intro u hu; simp at hu; subst hu; rfl) (by omega)
  rw [hW1]
  have hR : W'.heap[R]? = W1.heap[R]? := hg.block R h1.lt (fun e => h1.off e.symm)
  have hblk := hR.trans h1.blk
  have hoff : v'.ownBlock ≠ some R := by
    rcases hv with hv | hv
    · rw [hv]; exact h1.off
    · rw [hv]; intro e; injection e with e; have := h.lt; have := h1.lt; omega
  have hbel : Below w.heap.size w W' := h1.bel.grown hg h1.bel.size (own_base h1.own)
  refine ⟨v', W', hrun, by simp [World.frozen?, hblk], by simp [World.cell?, hblk], ?_, ?_⟩
  · obtain ⟨A', cap', e, _⟩ := own_form hown
    exact ⟨A', cap', e⟩
  · refine ⟨?_, h.ge, ?_, by simp [h.len], ?_, hoff, hbel.setCell (p := ⟨R, 6, none⟩) h.ge v'⟩
    · simp [World.setCell, Array.getElem?_modify, hblk]
    · refine own_setCell ?_ _ _ (fun k hk e => hoff (by rw [hk]; exact congrArg some e))
      rw [List.map_append]; exact hown
    · intro x hx
      rcases List.mem_append.1 hx with hx | hx
      · exact h.good x hx
      · simp at hx; subst hx; exact hs
end
/-- The maker, having taken at most K numbers. -/
def Mk (w : World) (A1 : Option Addr) (n1 c1 : Nat) (A2 : Option Addr) (n2 c2 : Nat) (R K : Nat) (W : World) : Prop :=
  ∃ (i t : Nat) (left : Int) (nm m : Nat) (ov : Value) (os : List ByteArray), MkS w A1 n1 c1 A2 n2 c2 R W i t left nm m ov os ∧ i ≤ K ∧ t ≤ K ∧ -(K : Int) ≤ left ∧ left ≤ 12 ∧ nm ≤ K ∧ m ≤ K
section
variable {w W W' : World} {A1 A2 : Option Addr} {n1 c1 n2 c2 R K K' : Nat}
theorem Mk.below (h : Mk w A1 n1 c1 A2 n2 c2 R K W) (hb : Below W.heap.size W W') : Mk w A1 n1 c1 A2 n2 c2 R K W' := by
  obtain ⟨i, t, l, nm, m, ov, os, h, h2⟩ := h
  exact ⟨i, t, l, nm, m, ov, os, h.below hb, h2⟩
theorem Mk.le (h : Mk w A1 n1 c1 A2 n2 c2 R K W) (hk : K ≤ K') : Mk w A1 n1 c1 A2 n2 c2 R K' W := by
  obtain ⟨i, t, l, nm, m, ov, os, h, h1, h2, h3, h4, h5, h6⟩ := h
  exact ⟨i, t, l, nm, m, ov, os, h, by omega, by omega, by omega, h4, by omega, by omega⟩
theorem Mk.bel (h : Mk w A1 n1 c1 A2 n2 c2 R K W) : Below w.heap.size w W := by
  obtain ⟨i, t, l, nm, m, ov, os, h, _⟩ := h
  exact h.bel
end
def NatP (Q : World → Prop) (n : Nat) (e : Ending) (w' : World) : Prop := ∃ k : Nat, k < n ∧ e = .returned (.int .i64 (k : Int)) ∧ Q w'
def PStrP (Q : World → Prop) (S : List Int → Prop) (e : Ending) (w' : World) : Prop := ∃ s : ByteArray, S (byt s) ∧ e = .returned (.string s) ∧ Q w'
/-- The other blocks stay. -/
def Apart (R : Nat) (W W' : World) : Prop := W.heap.size ≤ W'.heap.size ∧ ∀ k, k < W.heap.size → k ≠ R → W'.heap[k]? = W.heap[k]?
theorem Apart.trans {R : Nat} {W W1 W2 : World} (h : Apart R W W1) (k : Apart R W1 W2) : Apart R W W2 := ⟨Nat.le_trans h.1 k.1, fun j hj hne => (k.2 j (Nat.lt_of_lt_of_le hj h.1) hne).trans (h.2 j hj hne)⟩
theorem Apart.of {R : Nat} {W W1 : World} (h : Below W.heap.size W W1) : Apart R W W1 := ⟨h.size, fun j hj _ => h.block j hj⟩
theorem Apart.set (R : Nat) (W : World) (j : Nat) (u : Value) : Apart R W (W.setCell ⟨R, j, none⟩ u) := ⟨by simp [World.setCell], fun k _ hk => Below.heap_setCell _ _ _ _ hk⟩
theorem Apart.cell {R : Nat} {W W1 : World} (h : Apart R W W1) {g j : Nat} {v : Value} (hg : g ≠ R) (hc : W.cell? ⟨g, j, none⟩ = some v) : W1.cell? ⟨g, j, none⟩ = some v := by
  have hl : g < W.heap.size := World.block_lt_of_cell? _ _ hc
  rw [← hc]
  unfold World.cell?
  rw [h.2 g hl hg]
section
variable {w W : World} {A1 A2 : Option Addr} {n1 c1 n2 c2 R K : Nat}
set_option maxHeartbeats 1000000 in
theorem n_s {i t nm m : Nat} {l : Int} {ov : Value} {os : List ByteArray} (hp : PlanIn w A1 n1 c1 A2 n2 c2) (h : MkS w A1 n1 c1 A2 n2 c2 R W i t l nm m ov os) (hi : i ≤ 1000000) (of : Nat) (h1 : 1 ≤ of) (h2 : of ≤ 2000000000) :
    Calls Try.prog 76 #[.pointer (some ⟨R, 0, none⟩), .int .i64 (of : Int)] W (NatP (fun w' => MkS w A1 n1 c1 A2 n2 c2 R w' (i + 1) t l nm m ov os ∧ Apart R W w') of) := by
  have c0 := h.c0
  have c2' := h.c2'
  have z2 := h.z 2
  have l1 := hp.le1
  have m1 := hp.max1
  by_cases hlt : i < n1
  · obtain ⟨b, off, rfl, hz⟩ := hp.num (by omega)
    obtain ⟨z, hz, hz1, hz2⟩ := hz i hlt
    have cz := cell_keep h.bel hz
    have d1 : (i : Int) < (n1 : Int) := by omega
    have H := Lib.hid h
    clear hp h hz
    go_enter Try.func76, Try.ntmps76
    go_wp2_with fail
    go_quiet (fail)
    go_wp2_with fail
    go_quiet (fail)
    go_wp2_with fail
    refine (within_nat z of _ h1 h2 ⟨hz1, hz2⟩).mono ?_
    rintro e w' ⟨k, hk, rfl, rfl⟩
    go_wp2_with fail
    go_ret
    refine ⟨k, hk, rfl, ?_, (Apart.of (below_draws (Below.refl _ _) _)).trans (Apart.set R _ _ _)⟩
    have e : (i : Int) + 1 = ((i + 1 : Nat) : Int) := by omega
    rw [e]
    exact (H.out.below (below_draws (Below.refl _ _) _)).setI (i + 1)
  · have d1 : ¬ (i : Int) < (n1 : Int) := by omega
    have H := Lib.hid h
    clear hp h
    go_enter Try.func76, Try.ntmps76
    go_wp2_with fail
    go_quiet (fail)
    go_wp2_with fail
    refine (within_nat 0 of _ h1 h2 (by omega)).mono ?_
    rintro e w' ⟨k, hk, rfl, rfl⟩
    go_wp2_with fail
    go_ret
    refine ⟨k, hk, rfl, ?_, (Apart.of (below_draws (Below.refl _ _) _)).trans (Apart.set R _ _ _)⟩
    have e : (i : Int) + 1 = ((i + 1 : Nat) : Int) := by omega
    rw [e]
    exact (H.out.below (below_draws (Below.refl _ _) _)).setI (i + 1)
theorem n_at (hp : PlanIn w A1 n1 c1 A2 n2 c2) (h : Mk w A1 n1 c1 A2 n2 c2 R K W) (of : Nat) (h1 : 1 ≤ of) (h2 : of ≤ 2000000000) (hK : K ≤ 1000000) :
    Calls Try.prog 76 #[.pointer (some ⟨R, 0, none⟩), .int .i64 (of : Int)] W (NatP (fun w' => Mk w A1 n1 c1 A2 n2 c2 R (K + 1) w' ∧ Apart R W w') of) := by
  obtain ⟨i, t, l, nm, m, ov, os, h, hi, ht, hl1, hl2, hnm, hm⟩ := h
  refine (n_s hp h (by omega) of h1 h2).mono ?_
  rintro e w' ⟨k, hk, he, h, ha⟩
  exact ⟨k, hk, he, ⟨i + 1, t, l, nm, m, ov, os, h, by omega, by omega, by omega, hl2, by omega, by omega⟩, ha⟩
theorem text_eq (s : ByteArray) (n : Nat) (w : World) (hn : n ≤ 1000000) (hs : s.size ≤ maxLen) :
    Calls Try.prog 57 #[.string s, .int .i64 n] w fun e w' => e = .returned (.string (strOfNums ((byt s).take n))) ∧ w' = w := by
  refine (text_any s n w hn hs).mono ?_
  rintro e w' ⟨t, h1, h2, rfl, rfl⟩
  rw [← h1, strOfNums_byt]
  exact ⟨rfl, rfl⟩
theorem text_q (s : ByteArray) (W : World) (m : Nat) (hs : s.size ≤ maxLen) :
    Calls Try.prog 57 #[.string s, .int .i64 20] (W.drewN m) fun e w'' => e = .returned (.string (strOfNums ((byt s).take 20))) ∧ ∃ m', w'' = W.drewN m' :=
  (text_eq s 20 (W.drewN m) (by omega) hs).mono fun e w' ⟨h1, h2⟩ => ⟨h1, m, h2⟩
set_option maxHeartbeats 1000000 in
theorem pText_at (hp : PlanIn w A1 n1 c1 A2 n2 c2) (h : Mk w A1 n1 c1 A2 n2 c2 R K W) (hK : K ≤ 1000000) :
    Calls Try.prog 95 #[.pointer (some ⟨R, 0, none⟩)] W (PStrP (fun w' => Mk w A1 n1 c1 A2 n2 c2 R (K + 1) w' ∧ Apart R W w') (fun l => l.length ≤ 20)) := by
  obtain ⟨i, t, l, nm, m, ov, os, h, hi, ht, hl1, hl2, hnm, hm⟩ := h
  have c1' := h.c1'
  have c3 := h.c3
  have z3 := h.z 3
  have l2 := hp.le2
  have m2 := hp.max2
  by_cases hlt : t < n2
  · obtain ⟨b, off, rfl, hz⟩ := hp.txt (by omega)
    obtain ⟨s, hz, hsz⟩ := hz t hlt
    have cz := cell_keep h.bel hz
    have d1 : (t : Int) + 1 ≤ (n2 : Int) := by omega
    have H := Lib.hid h
    have HP := Lib.hid hz
    clear hp h hz cz
    go_enter Try.func95, Try.ntmps95
    go_wp2_with fail
    go_quiet (fail)
    have e1 : (t : Int) + 1 = ((t + 1 : Nat) : Int) := by omega
    have h2 := H.out.setT (t + 1)
    rw [← e1] at h2
    replace h2 := h2.below (below_draws (Below.refl _ _) nq)
    have HA : Hid (Apart R W ((W.setCell ⟨R, 3, none⟩ (.int .i64 ((t : Int) + 1))).drewN nq)) := (Apart.set R W 3 _).trans (Apart.of (below_draws (Below.refl _ _) _))
    clear c1' c3 z3 H e1
    generalize (W.setCell ⟨R, 3, none⟩ (.int .i64 ((t : Int) + 1))).drewN nq = W2 at *
    have c1' := h2.c1'
    have c3 := h2.c3
    have cz := cell_keep h2.bel HP.out
    have e1 : ((t + 1 : Nat) : Int) = (t : Int) + 1 := by omega
    rw [e1] at c3
    have H2 := Lib.hid h2
    clear h2 e1
    have d2 : (t : Int) + 1 - 1 = (t : Int) := by omega
    have d3 : IntKind.i64.wrap (t : Int) = (t : Int) := by rw [IntWalk.i64_in _ (by omega)]
    have d4 : (t : Int) < (n2 : Int) := by omega
    go_wp2_with fail
    go_quiet (first | (go_at_call 57; exact text_q s _ _ hsz))
    go_wp2_with fail
    go_ret
    refine ⟨_, ?_, rfl, ⟨i, t + 1, l, nm, m, ov, os, H2.out.below (below_draws (Below.refl _ _) _), by omega, by omega, by omega, hl2, by omega, by omega⟩, HA.out.trans (Apart.of (below_draws (Below.refl _ _) _))⟩
    rw [byt_strOfNums _ ((byt_byte s).take 20)]
    show (List.take 20 (byt s)).length ≤ 20
    rw [List.length_take]; omega
  · have d1 : ¬ (t : Int) + 1 ≤ (n2 : Int) := by omega
    have H := Lib.hid h
    clear hp h
    go_enter Try.func95, Try.ntmps95
    go_wp2_with fail
    go_quiet (fail)
    go_wp2_with fail
    go_ret
    refine ⟨_, (by decide : (byt ⟨#[119, 111, 114, 100]⟩).length ≤ 20), rfl, ⟨i, t + 1, l, nm, m, ov, os, ?_, by omega, by omega, by omega, hl2, by omega, by omega⟩, (Apart.set R W 3 _).trans (Apart.of (below_draws (Below.refl _ _) _))⟩
    have e1 : (t : Int) + 1 = ((t + 1 : Nat) : Int) := by omega
    rw [e1]
    exact (H.out.setT (t + 1)).below (below_draws (Below.refl _ _) _)
end
set_option maxHeartbeats 1000000 in
theorem spaces_at (n : Nat) (z : Int) (hz : z = (n : Int)) (w : World) (hn : n ≤ 1000) : Calls Try.prog 78 #[.int .i64 z] w fun e w' => e = .returned (.string (strOfNums (List.replicate n 32))) ∧ w = w' := by
  subst hz
  go_enter Try.func78, Try.ntmps78
  go_wp2_with fail
  go_loop [0, 3] (fun i s => ∃ (k : Nat) (x : ByteArray), k ≤ n ∧ x.size ≤ n - k ∧ i = .int .i64 (k : Int) ∧ s = .string x ∧ Hid (byt x = List.replicate (n - k) 32)) (fun i _ => (intOf i).toNat)
  case atStart => exact ⟨n, ⟨#[]⟩, Nat.le_refl _, by exact Nat.zero_le _, rfl, rfl, by show _ = _; rw [Nat.sub_self]; rfl⟩
  case round =>
    obtain ⟨k, x, hk, hx, rfl, rfl, HT⟩ := hrel
    rcases Nat.eq_zero_or_pos k with h0 | h0
    · subst h0
      go_wp2_with fail
      go_ret
      refine ⟨ret_str ?_, rfl⟩
      rw [← strOfNums_byt x, HT.out, Nat.sub_zero]
    · have hd : (0 : Int) < (k : Int) := by omega
      have h1 : byt (x ++ ⟨#[32]⟩) = List.replicate (n - (k - 1)) 32 := by
        rw [byt_append, HT.out, show n - (k - 1) = n - k + 1 by omega, List.replicate_succ']; rfl
      go_wp2_with fail
      go_round
      case rel => exact ⟨k - 1, _, by omega, by rw [← byt_len, h1]; simp, by go_num, rfl, h1⟩
      case measure => simp [intOf]; omega
set_option linter.unusedSimpArgs false
def pyScal : List (List Int) := [[97], [98, 32, 99], [49], [45, 50, 46, 53], [116, 114, 117, 101], [110, 117, 108, 108], [126], [120, 58, 121], [97, 35, 98], [45, 120], [105, 116, 39, 115], [48, 120, 49, 70], [195, 169], [119, 111, 114, 100]]
theorem pyScal_ok : pyScal.all (fun l => validF l true && (decide (l.length ≤ 20) && l.all (fun z => decide (0 ≤ z) && decide (z < 256)))) = true := by decide +kernel
theorem pyScal_s {l : List Int} (h : l ∈ pyScal) : PyS l := by
  have := List.all_eq_true.1 pyScal_ok l h
  simp only [Bool.and_eq_true, decide_eq_true_eq, List.all_eq_true] at this
  exact .pln l this.2.2 this.2.1 this.1
/-- A table of texts in new memory. -/
theorem table_at (W : World) (L : List ByteArray) (C : Array Value) (hC : C = (L.map Value.string).toArray) (j : Nat) (hj : j < L.length) : ∃ s, (W.alloc (.cells C 9)).cell? ⟨W.heap.size, j, none⟩ = some (.string s) ∧ s ∈ L := by
  refine ⟨L[j], ?_, List.getElem_mem _⟩
  rw [World.cell?_alloc_mark, hC]
  simp [hj]
section
variable {w W : World} {A1 A2 : Option Addr} {n1 c1 n2 c2 R K : Nat}
theorem Mk.lt (h : Mk w A1 n1 c1 A2 n2 c2 R K W) : R < W.heap.size := by
  obtain ⟨i, t, l, nm, m, ov, os, h, _⟩ := h
  exact h.lt
set_option maxHeartbeats 4000000 in
theorem pscalar_at (hp : PlanIn w A1 n1 c1 A2 n2 c2) (W0 : World) (h : Mk w A1 n1 c1 A2 n2 c2 R K W0) (hK : K ≤ 100000) :
    Calls Try.prog 80 #[.pointer (some ⟨R, 0, none⟩), .bool true] W0 (PStrP (Mk w A1 n1 c1 A2 n2 c2 R (K + 3)) PyS) := by
  have H0 := Lib.hid h
  obtain ⟨V0, hV0⟩ : ∃ V, W0.alloc (.cells #[.string ⟨#[97]⟩, .string ⟨#[98, 32, 99]⟩, .string ⟨#[49]⟩, .string ⟨#[45, 50, 46, 53]⟩, .string ⟨#[116, 114, 117, 101]⟩, .string ⟨#[110, 117, 108, 108]⟩, .string ⟨#[126]⟩, .string ⟨#[120, 58, 121]⟩, .string ⟨#[97, 35, 98]⟩, .string ⟨#[45, 120]⟩, .string ⟨#[105, 116, 39, 115]⟩, .string ⟨#[48, 120, 49, 70]⟩, .string ⟨#[195, 169]⟩, .string ⟨#[119, 111, 114, 100]⟩] 9) = V := ⟨_, rfl⟩
  have hRW := H0.out.lt
  obtain ⟨g, hg⟩ : ∃ g, W0.heap.size = g := ⟨_, rfl⟩
  have HG : Hid (g ≠ R) := by show g ≠ R; omega
  have HV : Hid (∀ j, j < 14 → ∃ s : ByteArray, V0.cell? ⟨g, j, none⟩ = some (.string s) ∧ PyS (byt s)) := by
    intro j hj
    obtain ⟨s, hs, hm⟩ := table_at W0 [⟨#[97]⟩, ⟨#[98, 32, 99]⟩, ⟨#[49]⟩, ⟨#[45, 50, 46, 53]⟩, ⟨#[116, 114, 117, 101]⟩, ⟨#[110, 117, 108, 108]⟩, ⟨#[126]⟩, ⟨#[120, 58, 121]⟩, ⟨#[97, 35, 98]⟩, ⟨#[45, 120]⟩, ⟨#[105, 116, 39, 115]⟩, ⟨#[48, 120, 49, 70]⟩, ⟨#[195, 169]⟩, ⟨#[119, 111, 114, 100]⟩] _ rfl j hj
    refine ⟨s, by rw [← hV0, ← hg]; exact hs, ?_⟩
    simp only [List.mem_cons, List.not_mem_nil, or_false] at hm
    rcases hm with rfl | rfl | rfl | rfl | rfl | rfl | rfl | rfl | rfl | rfl | rfl | rfl | rfl | rfl
    · exact pyScal_s (by decide +kernel)
    · exact pyScal_s (by decide +kernel)
    · exact pyScal_s (by decide +kernel)
    · exact pyScal_s (by decide +kernel)
    · exact pyScal_s (by decide +kernel)
    · exact pyScal_s (by decide +kernel)
    · exact pyScal_s (by decide +kernel)
    · exact pyScal_s (by decide +kernel)
    · exact pyScal_s (by decide +kernel)
    · exact pyScal_s (by decide +kernel)
    · exact pyScal_s (by decide +kernel)
    · exact pyScal_s (by decide +kernel)
    · exact pyScal_s (by decide +kernel)
    · exact pyScal_s (by decide +kernel)
  have HM0 : Hid (Mk w A1 n1 c1 A2 n2 c2 R K V0) := by
    have hb : Below W0.heap.size W0 V0 := by rw [← hV0]; exact (Below.refl _ _).alloc (Nat.le_refl _) _
    exact H0.out.below hb
  clear h hRW
  go_enter Try.func80, Try.ntmps80
  go_wp2_with fail
  clear hV0 H0
  refine (n_at hp HM0.out 6 (by omega) (by omega) (by omega)).mono ?_
  rintro e W1 ⟨k, hk, rfl, hM1, hA1⟩
  have HM1 := Lib.hid hM1
  have HA1 := Lib.hid hA1
  clear hM1 hA1
  rcases (by omega : k = 0 ∨ k = 1 ∨ k = 2 ∨ 3 ≤ k) with rfl | rfl | rfl | h3
  · simp only [show ((0 : Nat) : Int) = 0 from rfl]
    go_wp2_with fail
    refine (pText_at hp HM1.out (by omega)).mono ?_
    rintro e W2 ⟨t, ht, rfl, hM2, hA2⟩
    have hts : t.size ≤ 20 := by rw [← byt_len]; exact ht
    have HM2 := Lib.hid hM2
    have HA2 := Lib.hid (HA1.out.trans hA2)
    clear hM2 hA2 HM1 HA1
    go_wp2_with fail
    refine (refPut_any t W2 (by omega) _ rfl).mono ?_
    rintro e W3 ⟨p, hpp, rfl, hb3⟩
    have HM3 := Lib.hid (HM2.out.below hb3)
    have HA3 := Lib.hid (HA2.out.trans (Apart.of hb3))
    clear hb3 HM2 HA2
    cases ho : putD (byt t) with
    | none =>
      simp only [Option.isSome]
      clear hpp
      go_wp2_with fail
      refine (n_at hp HM3.out 14 (by omega) (by omega) (by omega)).mono ?_
      rintro e Wt ⟨j, hj, rfl, hMt, hAt⟩
      obtain ⟨s, hc, hs⟩ := HV.out j hj
      have hcj := hAt.cell HG.out (HA3.out.cell HG.out hc)
      have dj : (j : Int) < 14 := by omega
      have HMt := Lib.hid hMt
      clear hc hMt hAt
      go_wp2_with fail
      go_ret
      exact ⟨s, hs, rfl, HMt.out.le (by omega)⟩
    | some y =>
      rw [ho] at hpp
      simp only [Option.isSome]
      have HPP := Lib.hid hpp
      clear hpp
      go_wp2_with fail
      go_ret
      exact ⟨p, by rw [HPP.out]; exact .dbl (byt t) y (byt_byte t) ht ho, rfl, HM3.out.le (by omega)⟩
  · simp only [show ((1 : Nat) : Int) = 1 from rfl]
    go_wp2_with fail
    refine (pText_at hp HM1.out (by omega)).mono ?_
    rintro e W2 ⟨t, ht, rfl, hM2, hA2⟩
    have hts : t.size ≤ 20 := by rw [← byt_len]; exact ht
    have HM2 := Lib.hid hM2
    have HA2 := Lib.hid (HA1.out.trans hA2)
    clear hM2 hA2 HM1 HA1
    go_wp2_with fail
    obtain ⟨ok, hok⟩ : ∃ ok, inF true t.size (byt t) = ok := ⟨_, rfl⟩
    refine (Sg.refPut_any t W2 (by omega) ok hok).mono ?_
    rintro e W3 ⟨p, hpp, rfl, hb3⟩
    have HM3 := Lib.hid (HM2.out.below hb3)
    have HA3 := Lib.hid (HA2.out.trans (Apart.of hb3))
    have HPP := Lib.hid hpp
    have HOK := Lib.hid hok
    clear hb3 HM2 HA2 hpp hok
    cases ok with
    | false =>
      go_wp2_with fail
      refine (n_at hp HM3.out 14 (by omega) (by omega) (by omega)).mono ?_
      rintro e Wt ⟨j, hj, rfl, hMt, hAt⟩
      obtain ⟨s, hc, hs⟩ := HV.out j hj
      have hcj := hAt.cell HG.out (HA3.out.cell HG.out hc)
      have dj : (j : Int) < 14 := by omega
      have HMt := Lib.hid hMt
      clear hc hMt hAt
      go_wp2_with fail
      go_ret
      exact ⟨s, hs, rfl, HMt.out.le (by omega)⟩
    | true =>
      go_wp2_with fail
      go_ret
      exact ⟨p, by rw [HPP.out, if_pos trivial]; exact .sgl (byt t) (byt_byte t) ht (by rw [byt_len]; exact HOK.out), rfl, HM3.out.le (by omega)⟩
  · simp only [show ((2 : Nat) : Int) = 2 from rfl]
    go_wp2_with fail
    refine (pText_at hp HM1.out (by omega)).mono ?_
    rintro e W2 ⟨t, ht, rfl, hM2, hA2⟩
    have hts : t.size ≤ 20 := by rw [← byt_len]; exact ht
    have HM2 := Lib.hid hM2
    have HA2 := Lib.hid (HA1.out.trans hA2)
    clear hM2 hA2 HM1 HA1
    go_wp2_with fail
    obtain ⟨ok, hok⟩ : ∃ ok, validF (byt t) true = ok := ⟨_, rfl⟩
    refine (refValid_any t true W2 (by omega) ok hok).mono ?_
    rintro e W3 ⟨rfl, hb3⟩
    have HM3 := Lib.hid (HM2.out.below hb3)
    have HA3 := Lib.hid (HA2.out.trans (Apart.of hb3))
    have HOK := Lib.hid hok
    clear hb3 HM2 HA2 hok
    cases ok with
    | false =>
      go_wp2_with fail
      refine (n_at hp HM3.out 14 (by omega) (by omega) (by omega)).mono ?_
      rintro e Wt ⟨j, hj, rfl, hMt, hAt⟩
      obtain ⟨s, hc, hs⟩ := HV.out j hj
      have hcj := hAt.cell HG.out (HA3.out.cell HG.out hc)
      have dj : (j : Int) < 14 := by omega
      have HMt := Lib.hid hMt
      clear hc hMt hAt
      go_wp2_with fail
      go_ret
      exact ⟨s, hs, rfl, HMt.out.le (by omega)⟩
    | true =>
      go_wp2_with fail
      go_ret
      exact ⟨t, .pln (byt t) (byt_byte t) ht HOK.out, rfl, HM3.out.le (by omega)⟩
  · have e0 : ¬ (k : Int) = 0 := by omega
    have e1 : ¬ (k : Int) = 1 := by omega
    have e2 : ¬ (k : Int) = 2 := by omega
    go_wp2_with fail
    refine (n_at hp HM1.out 14 (by omega) (by omega) (by omega)).mono ?_
    rintro e Wt ⟨j, hj, rfl, hMt, hAt⟩
    obtain ⟨s, hc, hs⟩ := HV.out j hj
    have hcj := hAt.cell HG.out (HA1.out.cell HG.out hc)
    have dj : (j : Int) < 14 := by omega
    have HMt := Lib.hid hMt
    clear hc hMt hAt
    go_wp2_with fail
    go_ret
    exact ⟨s, hs, rfl, HMt.out.le (by omega)⟩
set_option maxHeartbeats 4000000 in
theorem props_at (hp : PlanIn w A1 n1 c1 A2 n2 c2) (W : World) (h : Mk w A1 n1 c1 A2 n2 c2 R K W) (hK : K ≤ 100000) :
    Calls Try.prog 77 #[.pointer (some ⟨R, 0, none⟩)] W (PStrP (Mk w A1 n1 c1 A2 n2 c2 R (K + 2)) PyP) := by
  go_enter Try.func77, Try.ntmps77
  go_wp2_with fail
  refine (n_at hp h 12 (by omega) (by omega) (by omega)).mono ?_
  rintro e W0 ⟨k, hk, rfl, hM1, -⟩
  have H0 := Lib.hid hM1
  clear hM1 h
  rcases (by omega : k = 0 ∨ k = 1 ∨ 2 ≤ k) with rfl | rfl | h3
  · simp only [show ((0 : Nat) : Int) = 0 from rfl]
    obtain ⟨i, t, l, nm, m, ov, os, h, hi, ht, hl1, hl2, hnm, hm⟩ := H0.out
    have c5 := h.c5
    have z5 := h.z 5
    have h1 := h.setN (nm + 1)
    have e5 : ((nm + 1 : Nat) : Int) = (nm : Int) + 1 := by omega
    rw [e5] at h1
    have c5' := h1.c5
    have c6' := h1.c6
    rw [e5] at c5'
    obtain ⟨c, hc⟩ : ∃ c : Int, 97 + ((nm : Int) + 1) % 26 = c := ⟨_, rfl⟩
    have hm1 := Int.emod_nonneg ((nm : Int) + 1) (show (26 : Int) ≠ 0 by omega)
    have hm2 := Int.emod_lt_of_pos ((nm : Int) + 1) (show (0 : Int) < 26 by omega)
    have hc1 : 97 ≤ c := by omega
    have hc2 : c ≤ 122 := by omega
    have H1 := Lib.hid h1
    clear h h1 e5 H0
    go_upto_region 4 with fail
    generalize W0.setCell ⟨R, 5, none⟩ (.int .i64 ((nm : Int) + 1)) = W1 at *
    clear c5 z5
    have hw : IntKind.u8.wrap c = c := by rw [IntWalk.u8_in _ (by omega)]
    obtain ⟨W2, hW2⟩ : ∃ W2, W1.alloc (.cells #[.int .u8 c] 5) = W2 := ⟨_, rfl⟩
    have hb2 : Below W1.heap.size W1 W2 := by rw [← hW2]; exact (Below.refl _ _).alloc (Nat.le_refl _) _
    have hrunc : (convert 96 9 (.slice (some ⟨W1.heap.size, 0, none⟩) 1 1)).run Try.prog W2 = .ok (.string (strOfNums [c])) W2 := by
      refine run_string_rd W2 _ 1 1 [c] rfl ?_
      rw [← hW2]
      exact RdB.new rfl (fun k y hy => by
        match k with
        | 0 => simp at hy; subst hy; rfl
        | k + 1 => simp at hy)
    obtain ⟨s, hs⟩ : ∃ s, (⟨#[110]⟩ : ByteArray) ++ strOfNums [c] = s := ⟨_, rfl⟩
    have hcb : byt (strOfNums [c]) = [c] := byt_strOfNums _ (by intro z hz; simp at hz; omega)
    have hsb : byt s = [110, c] := by rw [← hs, byt_append, hcb]; rfl
    have hcz : (strOfNums [c]).size = 1 := by rw [← byt_len, hcb]; rfl
    have hsz : s.size = 2 := by rw [← byt_len, hsb]; rfl
    obtain ⟨s1, hs1⟩ : ∃ s1, (⟨#[38]⟩ : ByteArray) ++ s = s1 := ⟨_, rfl⟩
    have hsb1 : byt s1 = [38, 110, c] := by rw [← hs1, byt_append, hsb]; rfl
    have hsz1 : s1.size = 3 := by rw [← byt_len, hsb1]; rfl
    obtain ⟨s2, hs2⟩ : ∃ s2, s1 ++ (⟨#[32]⟩ : ByteArray) = s2 := ⟨_, rfl⟩
    have hsb2 : byt s2 = [38, 110, c, 32] := by rw [← hs2, byt_append, hsb1]; rfl
    have H2 := H1.out.below hb2
    have c6 := H2.c6
    have z6 := H2.z 6
    obtain ⟨v', W3, hrun, z63, c63, ⟨A', cap', rfl⟩, hM⟩ := H2.open_ (by omega) s ⟨c, hc1, hc2, hsb⟩
    have HRUN := Lib.hid hrun
    have HM := Lib.hid hM
    have HB := Lib.hid (And.intro hsb2 hb2)
    clear H2 hM hrun hsb hsb1 hsb2 hcb hb2 H1
    generalize strOfNums [c] = sc at *
    have hszl : sc.size ≤ 1 := by omega
    have hszl1 : s.size ≤ 2 := by omega
    have hszl2 : s1.size ≤ 3 := by omega
    clear hcz hsz hsz1
    go_wp2_with (at_builtin; refine wpList_append_known rfl (.tmp 29) (.tmp 31) 23 rfl ov (.slice (some ⟨W2.heap.size, 0, none⟩) 1 1) _ W3 rfl rfl HRUN.out ?_)
    go_ret
    exact ⟨s2, by rw [HB.out.1]; exact .anc c hc1 hc2, rfl, i, t, l, nm + 1, m + 1, _, _, HM.out, by omega, by omega, by omega, hl2, by omega, by omega⟩
  · simp only [show ((1 : Nat) : Int) = 1 from rfl]
    obtain ⟨V0, hV0⟩ : ∃ V, W0.alloc (.cells #[.string ⟨#[33, 120, 32]⟩, .string ⟨#[33, 33, 115, 116, 114, 32]⟩, .string ⟨#[33, 32]⟩, .string ⟨#[33, 33, 109, 97, 112, 32]⟩, .string ⟨#[33, 33, 105, 110, 116, 32]⟩] 9) = V := ⟨_, rfl⟩
    have hRW := H0.out.lt
    obtain ⟨g, hg⟩ : ∃ g, W0.heap.size = g := ⟨_, rfl⟩
    have HG : Hid (g ≠ R) := by show g ≠ R; omega
    have HV : Hid (∀ j, j < 5 → ∃ s : ByteArray, V0.cell? ⟨g, j, none⟩ = some (.string s) ∧ PyP (byt s)) := by
      intro j hj
      obtain ⟨s, hs, hm⟩ := table_at W0 [⟨#[33, 120, 32]⟩, ⟨#[33, 33, 115, 116, 114, 32]⟩, ⟨#[33, 32]⟩, ⟨#[33, 33, 109, 97, 112, 32]⟩, ⟨#[33, 33, 105, 110, 116, 32]⟩] _ rfl j hj
      refine ⟨s, by rw [← hV0, ← hg]; exact hs, ?_⟩
      simp only [List.mem_cons, List.not_mem_nil, or_false] at hm
      rcases hm with rfl | rfl | rfl | rfl | rfl
      · exact .tag _ (by decide +kernel)
      · exact .tag _ (by decide +kernel)
      · exact .tag _ (by decide +kernel)
      · exact .tag _ (by decide +kernel)
      · exact .tag _ (by decide +kernel)
    have HM0 : Hid (Mk w A1 n1 c1 A2 n2 c2 R (K + 1) V0) := by
      have hb : Below W0.heap.size W0 V0 := by rw [← hV0]; exact (Below.refl _ _).alloc (Nat.le_refl _) _
      exact H0.out.below hb
    clear hRW
    go_wp2_with fail
    clear hV0 H0
    refine (n_at hp HM0.out 5 (by omega) (by omega) (by omega)).mono ?_
    rintro e Wt ⟨j, hj, rfl, hMt, hAt⟩
    obtain ⟨s, hc, hs⟩ := HV.out j hj
    have hcj := hAt.cell HG.out hc
    have dj : (j : Int) < 5 := by omega
    have HMt := Lib.hid hMt
    clear hc hMt hAt
    go_wp2_with fail
    go_ret
    exact ⟨s, hs, rfl, HMt.out.le (by omega)⟩
  · have e0 : ¬ (k : Int) = 0 := by omega
    have e1 : ¬ (k : Int) = 1 := by omega
    go_wp2_with fail
    go_ret
    exact ⟨⟨#[]⟩, .none, rfl, H0.out.le (by omega)⟩
set_option maxHeartbeats 4000000 in
theorem key_0 (hp : PlanIn w A1 n1 c1 A2 n2 c2) (W : World) (h : Mk w A1 n1 c1 A2 n2 c2 R K W) (hK : K ≤ 100000) :
    Calls Try.prog 79 #[.pointer (some ⟨R, 0, none⟩), .int .i64 0] W (PStrP (Mk w A1 n1 c1 A2 n2 c2 R (K + 2)) PyK) := by
  obtain ⟨W1, hW1⟩ : ∃ W1, W.alloc (.cells #[.int .u8 97] 5) = W1 := ⟨_, rfl⟩
  have hb1 : Below W.heap.size W W1 := by rw [← hW1]; exact (Below.refl _ _).alloc (Nat.le_refl _) _
  have hrunc : (convert 96 9 (.slice (some ⟨W.heap.size, 0, none⟩) 1 1)).run Try.prog W1 = .ok (.string ⟨#[97]⟩) W1 := by
    refine run_string_rd W1 _ 1 1 [97] rfl ?_
    rw [← hW1]
    exact RdB.new rfl (fun k y hy => by
      match k with
      | 0 => simp at hy; subst hy; rfl
      | k + 1 => simp at hy)
  have hb8 : (((⟨#[97, 98, 99, 100, 101, 102, 103, 104]⟩ : ByteArray)[0]'(by decide)).toNat : Int) = 97 := by rfl
  have HM1 := Lib.hid (h.below hb1)
  clear h hb1
  go_enter Try.func79, Try.ntmps79
  go_wp2_with fail
  refine (n_at hp HM1.out 9 (by omega) (by omega) (by omega)).mono ?_
  rintro e W0 ⟨k, hk, rfl, hM2, -⟩
  have H0 := Lib.hid hM2
  clear hM2 HM1 hrunc hW1 hb8
  rcases (by omega : k = 0 ∨ k = 1 ∨ k = 2 ∨ k = 3 ∨ 4 ≤ k) with rfl | rfl | rfl | rfl | h4
  · simp only [show ((0 : Nat) : Int) = 0 from rfl]
    go_wp2_with fail
    go_ret
    exact ⟨_, .inl ⟨97, by omega, by omega, .inl rfl⟩, rfl, H0.out.le (by omega)⟩
  · simp only [show ((1 : Nat) : Int) = 1 from rfl]
    go_wp2_with fail
    go_ret
    exact ⟨_, .inl ⟨97, by omega, by omega, .inr (.inl rfl)⟩, rfl, H0.out.le (by omega)⟩
  · simp only [show ((2 : Nat) : Int) = 2 from rfl]
    go_wp2_with fail
    go_ret
    exact ⟨_, .inl ⟨97, by omega, by omega, .inr (.inr (.inl rfl))⟩, rfl, H0.out.le (by omega)⟩
  · simp only [show ((3 : Nat) : Int) = 3 from rfl]
    obtain ⟨V0, hV0⟩ : ∃ V, W0.alloc (.cells #[.string ⟨#[97]⟩, .string ⟨#[49]⟩, .string ⟨#[116, 114, 117, 101]⟩, .string ⟨#[98]⟩] 9) = V := ⟨_, rfl⟩
    have hRW := H0.out.lt
    obtain ⟨g, hg⟩ : ∃ g, W0.heap.size = g := ⟨_, rfl⟩
    have HG : Hid (g ≠ R) := by show g ≠ R; omega
    have HV : Hid (∀ j, j < 4 → ∃ s : ByteArray, V0.cell? ⟨g, j, none⟩ = some (.string s) ∧ PyK (byt s)) := by
      intro j hj
      obtain ⟨s, hs, hm⟩ := table_at W0 [⟨#[97]⟩, ⟨#[49]⟩, ⟨#[116, 114, 117, 101]⟩, ⟨#[98]⟩] _ rfl j hj
      refine ⟨s, by rw [← hV0, ← hg]; exact hs, ?_⟩
      simp only [List.mem_cons, List.not_mem_nil, or_false] at hm
      rcases hm with rfl | rfl | rfl | rfl
      · exact .inr (by decide +kernel)
      · exact .inr (by decide +kernel)
      · exact .inr (by decide +kernel)
      · exact .inr (by decide +kernel)
    have HM0 : Hid (Mk w A1 n1 c1 A2 n2 c2 R (K + 1) V0) := by
      have hb : Below W0.heap.size W0 V0 := by rw [← hV0]; exact (Below.refl _ _).alloc (Nat.le_refl _) _
      exact H0.out.below hb
    clear hRW
    go_wp2_with fail
    clear hV0 H0
    refine (n_at hp HM0.out 4 (by omega) (by omega) (by omega)).mono ?_
    rintro e Wt ⟨j, hj, rfl, hMt, hAt⟩
    obtain ⟨s, hc, hs⟩ := HV.out j hj
    have hcj := hAt.cell HG.out hc
    have dj : (j : Int) < 4 := by omega
    have HMt := Lib.hid hMt
    clear hc hMt hAt
    go_wp2_with fail
    go_ret
    exact ⟨s, hs, rfl, HMt.out.le (by omega)⟩
  · have e0 : ¬ (k : Int) = 0 := by omega
    have e1 : ¬ (k : Int) = 1 := by omega
    have e2 : ¬ (k : Int) = 2 := by omega
    have e3 : ¬ (k : Int) = 3 := by omega
    go_wp2_with fail
    go_ret
    exact ⟨_, .inl ⟨97, by omega, by omega, .inr (.inr (.inr rfl))⟩, rfl, H0.out.le (by omega)⟩
set_option maxHeartbeats 4000000 in
theorem key_1 (hp : PlanIn w A1 n1 c1 A2 n2 c2) (W : World) (h : Mk w A1 n1 c1 A2 n2 c2 R K W) (hK : K ≤ 100000) :
    Calls Try.prog 79 #[.pointer (some ⟨R, 0, none⟩), .int .i64 1] W (PStrP (Mk w A1 n1 c1 A2 n2 c2 R (K + 2)) PyK) := by
  obtain ⟨W1, hW1⟩ : ∃ W1, W.alloc (.cells #[.int .u8 98] 5) = W1 := ⟨_, rfl⟩
  have hb1 : Below W.heap.size W W1 := by rw [← hW1]; exact (Below.refl _ _).alloc (Nat.le_refl _) _
  have hrunc : (convert 96 9 (.slice (some ⟨W.heap.size, 0, none⟩) 1 1)).run Try.prog W1 = .ok (.string ⟨#[98]⟩) W1 := by
    refine run_string_rd W1 _ 1 1 [98] rfl ?_
    rw [← hW1]
    exact RdB.new rfl (fun k y hy => by
      match k with
      | 0 => simp at hy; subst hy; rfl
      | k + 1 => simp at hy)
  have hb8 : (((⟨#[97, 98, 99, 100, 101, 102, 103, 104]⟩ : ByteArray)[1]'(by decide)).toNat : Int) = 98 := by rfl
  have HM1 := Lib.hid (h.below hb1)
  clear h hb1
  go_enter Try.func79, Try.ntmps79
  go_wp2_with fail
  refine (n_at hp HM1.out 9 (by omega) (by omega) (by omega)).mono ?_
  rintro e W0 ⟨k, hk, rfl, hM2, -⟩
  have H0 := Lib.hid hM2
  clear hM2 HM1 hrunc hW1 hb8
  rcases (by omega : k = 0 ∨ k = 1 ∨ k = 2 ∨ k = 3 ∨ 4 ≤ k) with rfl | rfl | rfl | rfl | h4
  · simp only [show ((0 : Nat) : Int) = 0 from rfl]
    go_wp2_with fail
    go_ret
    exact ⟨_, .inl ⟨98, by omega, by omega, .inl rfl⟩, rfl, H0.out.le (by omega)⟩
  · simp only [show ((1 : Nat) : Int) = 1 from rfl]
    go_wp2_with fail
    go_ret
    exact ⟨_, .inl ⟨98, by omega, by omega, .inr (.inl rfl)⟩, rfl, H0.out.le (by omega)⟩
  · simp only [show ((2 : Nat) : Int) = 2 from rfl]
    go_wp2_with fail
    go_ret
    exact ⟨_, .inl ⟨98, by omega, by omega, .inr (.inr (.inl rfl))⟩, rfl, H0.out.le (by omega)⟩
  · simp only [show ((3 : Nat) : Int) = 3 from rfl]
    obtain ⟨V0, hV0⟩ : ∃ V, W0.alloc (.cells #[.string ⟨#[97]⟩, .string ⟨#[49]⟩, .string ⟨#[116, 114, 117, 101]⟩, .string ⟨#[98]⟩] 9) = V := ⟨_, rfl⟩
    have hRW := H0.out.lt
    obtain ⟨g, hg⟩ : ∃ g, W0.heap.size = g := ⟨_, rfl⟩
    have HG : Hid (g ≠ R) := by show g ≠ R; omega
    have HV : Hid (∀ j, j < 4 → ∃ s : ByteArray, V0.cell? ⟨g, j, none⟩ = some (.string s) ∧ PyK (byt s)) := by
      intro j hj
      obtain ⟨s, hs, hm⟩ := table_at W0 [⟨#[97]⟩, ⟨#[49]⟩, ⟨#[116, 114, 117, 101]⟩, ⟨#[98]⟩] _ rfl j hj
      refine ⟨s, by rw [← hV0, ← hg]; exact hs, ?_⟩
      simp only [List.mem_cons, List.not_mem_nil, or_false] at hm
      rcases hm with rfl | rfl | rfl | rfl
      · exact .inr (by decide +kernel)
      · exact .inr (by decide +kernel)
      · exact .inr (by decide +kernel)
      · exact .inr (by decide +kernel)
    have HM0 : Hid (Mk w A1 n1 c1 A2 n2 c2 R (K + 1) V0) := by
      have hb : Below W0.heap.size W0 V0 := by rw [← hV0]; exact (Below.refl _ _).alloc (Nat.le_refl _) _
      exact H0.out.below hb
    clear hRW
    go_wp2_with fail
    clear hV0 H0
    refine (n_at hp HM0.out 4 (by omega) (by omega) (by omega)).mono ?_
    rintro e Wt ⟨j, hj, rfl, hMt, hAt⟩
    obtain ⟨s, hc, hs⟩ := HV.out j hj
    have hcj := hAt.cell HG.out hc
    have dj : (j : Int) < 4 := by omega
    have HMt := Lib.hid hMt
    clear hc hMt hAt
    go_wp2_with fail
    go_ret
    exact ⟨s, hs, rfl, HMt.out.le (by omega)⟩
  · have e0 : ¬ (k : Int) = 0 := by omega
    have e1 : ¬ (k : Int) = 1 := by omega
    have e2 : ¬ (k : Int) = 2 := by omega
    have e3 : ¬ (k : Int) = 3 := by omega
    go_wp2_with fail
    go_ret
    exact ⟨_, .inl ⟨98, by omega, by omega, .inr (.inr (.inr rfl))⟩, rfl, H0.out.le (by omega)⟩
set_option maxHeartbeats 4000000 in
theorem key_2 (hp : PlanIn w A1 n1 c1 A2 n2 c2) (W : World) (h : Mk w A1 n1 c1 A2 n2 c2 R K W) (hK : K ≤ 100000) :
    Calls Try.prog 79 #[.pointer (some ⟨R, 0, none⟩), .int .i64 2] W (PStrP (Mk w A1 n1 c1 A2 n2 c2 R (K + 2)) PyK) := by
  obtain ⟨W1, hW1⟩ : ∃ W1, W.alloc (.cells #[.int .u8 99] 5) = W1 := ⟨_, rfl⟩
  have hb1 : Below W.heap.size W W1 := by rw [← hW1]; exact (Below.refl _ _).alloc (Nat.le_refl _) _
  have hrunc : (convert 96 9 (.slice (some ⟨W.heap.size, 0, none⟩) 1 1)).run Try.prog W1 = .ok (.string ⟨#[99]⟩) W1 := by
    refine run_string_rd W1 _ 1 1 [99] rfl ?_
    rw [← hW1]
    exact RdB.new rfl (fun k y hy => by
      match k with
      | 0 => simp at hy; subst hy; rfl
      | k + 1 => simp at hy)
  have hb8 : (((⟨#[97, 98, 99, 100, 101, 102, 103, 104]⟩ : ByteArray)[2]'(by decide)).toNat : Int) = 99 := by rfl
  have HM1 := Lib.hid (h.below hb1)
  clear h hb1
  go_enter Try.func79, Try.ntmps79
  go_wp2_with fail
  refine (n_at hp HM1.out 9 (by omega) (by omega) (by omega)).mono ?_
  rintro e W0 ⟨k, hk, rfl, hM2, -⟩
  have H0 := Lib.hid hM2
  clear hM2 HM1 hrunc hW1 hb8
  rcases (by omega : k = 0 ∨ k = 1 ∨ k = 2 ∨ k = 3 ∨ 4 ≤ k) with rfl | rfl | rfl | rfl | h4
  · simp only [show ((0 : Nat) : Int) = 0 from rfl]
    go_wp2_with fail
    go_ret
    exact ⟨_, .inl ⟨99, by omega, by omega, .inl rfl⟩, rfl, H0.out.le (by omega)⟩
  · simp only [show ((1 : Nat) : Int) = 1 from rfl]
    go_wp2_with fail
    go_ret
    exact ⟨_, .inl ⟨99, by omega, by omega, .inr (.inl rfl)⟩, rfl, H0.out.le (by omega)⟩
  · simp only [show ((2 : Nat) : Int) = 2 from rfl]
    go_wp2_with fail
    go_ret
    exact ⟨_, .inl ⟨99, by omega, by omega, .inr (.inr (.inl rfl))⟩, rfl, H0.out.le (by omega)⟩
  · simp only [show ((3 : Nat) : Int) = 3 from rfl]
    obtain ⟨V0, hV0⟩ : ∃ V, W0.alloc (.cells #[.string ⟨#[97]⟩, .string ⟨#[49]⟩, .string ⟨#[116, 114, 117, 101]⟩, .string ⟨#[98]⟩] 9) = V := ⟨_, rfl⟩
    have hRW := H0.out.lt
    obtain ⟨g, hg⟩ : ∃ g, W0.heap.size = g := ⟨_, rfl⟩
    have HG : Hid (g ≠ R) := by show g ≠ R; omega
    have HV : Hid (∀ j, j < 4 → ∃ s : ByteArray, V0.cell? ⟨g, j, none⟩ = some (.string s) ∧ PyK (byt s)) := by
      intro j hj
      obtain ⟨s, hs, hm⟩ := table_at W0 [⟨#[97]⟩, ⟨#[49]⟩, ⟨#[116, 114, 117, 101]⟩, ⟨#[98]⟩] _ rfl j hj
      refine ⟨s, by rw [← hV0, ← hg]; exact hs, ?_⟩
      simp only [List.mem_cons, List.not_mem_nil, or_false] at hm
      rcases hm with rfl | rfl | rfl | rfl
      · exact .inr (by decide +kernel)
      · exact .inr (by decide +kernel)
      · exact .inr (by decide +kernel)
      · exact .inr (by decide +kernel)
    have HM0 : Hid (Mk w A1 n1 c1 A2 n2 c2 R (K + 1) V0) := by
      have hb : Below W0.heap.size W0 V0 := by rw [← hV0]; exact (Below.refl _ _).alloc (Nat.le_refl _) _
      exact H0.out.below hb
    clear hRW
    go_wp2_with fail
    clear hV0 H0
    refine (n_at hp HM0.out 4 (by omega) (by omega) (by omega)).mono ?_
    rintro e Wt ⟨j, hj, rfl, hMt, hAt⟩
    obtain ⟨s, hc, hs⟩ := HV.out j hj
    have hcj := hAt.cell HG.out hc
    have dj : (j : Int) < 4 := by omega
    have HMt := Lib.hid hMt
    clear hc hMt hAt
    go_wp2_with fail
    go_ret
    exact ⟨s, hs, rfl, HMt.out.le (by omega)⟩
  · have e0 : ¬ (k : Int) = 0 := by omega
    have e1 : ¬ (k : Int) = 1 := by omega
    have e2 : ¬ (k : Int) = 2 := by omega
    have e3 : ¬ (k : Int) = 3 := by omega
    go_wp2_with fail
    go_ret
    exact ⟨_, .inl ⟨99, by omega, by omega, .inr (.inr (.inr rfl))⟩, rfl, H0.out.le (by omega)⟩
theorem pkey_at (hp : PlanIn w A1 n1 c1 A2 n2 c2) (W : World) (h : Mk w A1 n1 c1 A2 n2 c2 R K W) (hK : K ≤ 100000) (i : Nat) (hi : i < 3) :
    Calls Try.prog 79 #[.pointer (some ⟨R, 0, none⟩), .int .i64 (i : Int)] W (PStrP (Mk w A1 n1 c1 A2 n2 c2 R (K + 2)) PyK) := by
  rcases (by omega : i = 0 ∨ i = 1 ∨ i = 2) with rfl | rfl | rfl
  · exact key_0 hp W h hK
  · exact key_1 hp W h hK
  · exact key_2 hp W h hK
end
def pyK : Nat → Nat
  | 0 => 20
  | d + 1 => 3 * pyK d + 60
theorem pyK_ge : ∀ d, 20 ≤ pyK d
  | 0 => Nat.le_refl _
  | d + 1 => by have := pyK_ge d; unfold pyK; omega
theorem pySz_le : ∀ d, d ≤ 3 → pySz d ≤ 6396
  | 0, _ => by decide
  | 1, _ => by decide
  | 2, _ => by decide
  | 3, _ => by decide
theorem pyE1_mk {C : List Int → Prop} {k v : List Int} {j : Nat} (hk : PyK k) (hv : v = [] ∨ C v) (h1 : 1 ≤ j) (h2 : j ≤ 2) : PyE1 C (k ++ 58 :: (List.replicate j 32 ++ v)) := ⟨k, v, j, hk, hv, h1, h2, rfl⟩
section
variable {w : World} {A1 A2 : Option Addr} {n1 c1 n2 c2 R : Nat}
set_option maxHeartbeats 8000000 in
theorem inline0_at (hp : PlanIn w A1 n1 c1 A2 n2 c2) (K : Nat) (W0 : World) (h : Mk w A1 n1 c1 A2 n2 c2 R K W0) (hK : K ≤ 20000) (dp : Int) (hdp : 3 < dp) :
    Calls Try.prog 64 #[.pointer (some ⟨R, 0, none⟩), .int .i64 dp] W0 (PStrP (Mk w A1 n1 c1 A2 n2 c2 R (K + 20)) (PyN 0)) := by
  obtain ⟨i, t, l, nm, m, ov, os, h, hi, ht, hl1, hl2, hnm, hm⟩ := h
  have c4 := h.c4
  have z4 := h.z 4
  have h1 := h.setL (l - 1)
  have HM1 : Hid (Mk w A1 n1 c1 A2 n2 c2 R (K + 1) (W0.setCell ⟨R, 4, none⟩ (.int .i64 (l - 1)))) := ⟨i, t, l - 1, nm, m, ov, os, h1, by omega, by omega, by omega, by omega, by omega, by omega⟩
  clear h h1
  go_enter Try.func64, Try.ntmps64
  go_wp2_with fail
  generalize W0.setCell ⟨R, 4, none⟩ (.int .i64 (l - 1)) = W1 at *
  clear c4 z4 hi ht hl1 hl2 hnm hm
  refine (n_at hp HM1.out 8 (by omega) (by omega) (by omega)).mono ?_
  rintro e W2 ⟨k, hk, rfl, hM2, -⟩
  have HM2 := Lib.hid hM2
  obtain ⟨i, t, l, nm, m, ov, os, h2, hi, ht, hl1, hl2, hnm, hm⟩ := hM2
  have c4 := h2.c4
  have H2 := Lib.hid h2
  clear h2 HM1
  by_cases hl : l ≤ 0
  · clear H2
    go_wp2_with fail
    refine (props_at hp W2 HM2.out (by omega)).mono ?_
    rintro e Wp ⟨p, hpP, rfl, hMp⟩
    have hpz : p.size ≤ 6 := by rw [← byt_len]; exact pyP_len hpP
    have HMp := Lib.hid hMp
    clear hMp
    go_wp2_with fail
    refine (pscalar_at hp Wp HMp.out (by omega)).mono ?_
    rintro e Ws ⟨s, hsS, rfl, hMs⟩
    have hsz : s.size ≤ 202 := by rw [← byt_len]; exact pyS_len hsS
    have HMs := Lib.hid hMs
    clear hMs
    go_wp2_with fail
    go_ret
    exact ⟨p ++ s, PyN.leaf (.inl ⟨byt p, byt s, hpP, hsS, byt_append p s⟩), rfl, HMs.out.le (by omega)⟩
  · clear H2
    go_wp2_with fail
    refine (props_at hp W2 HM2.out (by omega)).mono ?_
    rintro e Wp ⟨p, hpP, rfl, hMp⟩
    have hpz : p.size ≤ 6 := by rw [← byt_len]; exact pyP_len hpP
    have HMp := Lib.hid hMp
    clear hMp
    go_wp2_with fail
    refine (pscalar_at hp Wp HMp.out (by omega)).mono ?_
    rintro e Ws ⟨s, hsS, rfl, hMs⟩
    have hsz : s.size ≤ 202 := by rw [← byt_len]; exact pyS_len hsS
    have HMs := Lib.hid hMs
    clear hMs
    go_wp2_with fail
    go_ret
    exact ⟨p ++ s, PyN.leaf (.inl ⟨byt p, byt s, hpP, hsS, byt_append p s⟩), rfl, HMs.out.le (by omega)⟩
set_option maxHeartbeats 16000000 in
theorem inlineS_at (hp : PlanIn w A1 n1 c1 A2 n2 c2) (d : Nat) (hd : d ≤ 3) (ih : ∀ (K : Nat) (W0 : World), Mk w A1 n1 c1 A2 n2 c2 R K W0 → K + pyK d ≤ 20000 → ∀ dp : Int, dp = 4 - (d : Int) → Calls Try.prog 64 #[.pointer (some ⟨R, 0, none⟩), .int .i64 dp] W0 (PStrP (Mk w A1 n1 c1 A2 n2 c2 R (K + pyK d)) (PyN d))) (K : Nat) (W0 : World) (h : Mk w A1 n1 c1 A2 n2 c2 R K W0) (hK : K + pyK (d + 1) ≤ 20000) (dp : Int) (hdp : dp = 3 - (d : Int)) :
    Calls Try.prog 64 #[.pointer (some ⟨R, 0, none⟩), .int .i64 dp] W0 (PStrP (Mk w A1 n1 c1 A2 n2 c2 R (K + pyK (d + 1))) (PyN (d + 1))) := by
  obtain ⟨c, hc⟩ : ∃ c, pyK d = c := ⟨_, rfl⟩
  have hc20 := pyK_ge d
  have hpz3 := pySz_le d hd
  have hpy : pyK (d + 1) = 3 * c + 60 := by rw [← hc]; rfl
  rw [hpy] at hK ⊢
  rw [hc] at hc20
  have d3 : ¬ (3 : Int) < dp := by omega
  obtain ⟨i, t, l, nm, m, ov, os, h, hi, ht, hl1, hl2, hnm, hm⟩ := h
  have c4 := h.c4
  have z4 := h.z 4
  have h1 := h.setL (l - 1)
  have HM1 : Hid (Mk w A1 n1 c1 A2 n2 c2 R (K + 1) (W0.setCell ⟨R, 4, none⟩ (.int .i64 (l - 1)))) := ⟨i, t, l - 1, nm, m, ov, os, h1, by omega, by omega, by omega, by omega, by omega, by omega⟩
  clear h h1
  go_enter Try.func64, Try.ntmps64
  go_wp2_with fail
  generalize W0.setCell ⟨R, 4, none⟩ (.int .i64 (l - 1)) = W1 at *
  clear c4 z4 hi ht hl1 hl2 hnm hm
  refine (n_at hp HM1.out 8 (by omega) (by omega) (by omega)).mono ?_
  rintro e W2 ⟨k, hk, rfl, hM2, -⟩
  have HM2 := Lib.hid hM2
  obtain ⟨i, t, l, nm, m, ov, os, h2, hi, ht, hl1, hl2, hnm, hm⟩ := hM2
  have c4 := h2.c4
  have H2 := Lib.hid h2
  clear h2 HM1
  by_cases hl : l ≤ 0
  · clear H2
    go_wp2_with fail
    refine (props_at hp W2 HM2.out (by omega)).mono ?_
    rintro e Wp ⟨p, hpP, rfl, hMp⟩
    have hpz : p.size ≤ 6 := by rw [← byt_len]; exact pyP_len hpP
    have HMp := Lib.hid hMp
    clear hMp
    go_wp2_with fail
    refine (pscalar_at hp Wp HMp.out (by omega)).mono ?_
    rintro e Ws ⟨s, hsS, rfl, hMs⟩
    have hsz : s.size ≤ 202 := by rw [← byt_len]; exact pyS_len hsS
    have HMs := Lib.hid hMs
    clear hMs
    go_wp2_with fail
    go_ret
    exact ⟨p ++ s, PyN.leaf (.inl ⟨byt p, byt s, hpP, hsS, byt_append p s⟩), rfl, HMs.out.le (by omega)⟩
  rcases (by omega : k = 0 ∨ k = 1 ∨ k = 2 ∨ k = 3 ∨ k = 4 ∨ 5 ≤ k) with rfl | rfl | rfl | rfl | rfl | h5
  · simp only [show ((0 : Nat) : Int) = 0 from rfl]
    go_wp2_with fail
    refine (props_at hp W2 HM2.out (by omega)).mono ?_
    rintro e W3 ⟨p, hpP, rfl, hM3⟩
    have hpz : p.size ≤ 6 := by rw [← byt_len]; exact pyP_len hpP
    have HPP := Lib.hid hpP
    have HM3 := Lib.hid hM3
    clear hM3 hpP HM2 H2 c4
    obtain ⟨s0, hs0⟩ : ∃ s0, p ++ (⟨#[91]⟩ : ByteArray) = s0 := ⟨_, rfl⟩
    have hsb0 : byt s0 = byt p ++ [91] := by rw [← hs0, byt_append]; rfl
    have hsz0 : s0.size ≤ 7 := by rw [← byt_len, hsb0, List.length_append, byt_len]; simp; omega
    have HSB := Lib.hid hsb0
    clear hsb0
    go_wp2_with fail
    refine (n_at hp HM3.out 4 (by omega) (by omega) (by omega)).mono ?_
    rintro e W4 ⟨n, hn, rfl, hM4, -⟩
    have HM4 := Lib.hid hM4
    clear hM4 HM3
    go_wp2_with fail
    clear hs0
    go_loopw [6, 8] (fun s i W => ∃ (k : Nat) (x : ByteArray) (its : List Int), k ≤ n ∧ x.size ≤ 7 + k * 6500 ∧ s = .string x ∧ i = .int .i64 (k : Int) ∧ Hid (byt x = byt p ++ 91 :: its ∧ PyI (PyN d) k its ∧ Mk w A1 n1 c1 A2 n2 c2 R (K + 6 + k * (c + 5)) W)) (fun _ i _ => n - (intOf i).toNat)
    case atStart => exact ⟨0, s0, [], by omega, by omega, rfl, rfl, HSB.out, .nil, HM4.out.le (by omega)⟩
    case round =>
      obtain ⟨k, x, its, hk, hx, rfl, rfl, HK⟩ := hrel
      obtain ⟨W, hW⟩ : ∃ x, x = wr := ⟨_, rfl⟩
      subst hW
      have hkc : k * (c + 5) ≤ 3 * (c + 5) := Nat.mul_le_mul_right _ (by omega)
      have HMK := Lib.hid HK.out.2.2
      by_cases hlt : k < n
      · have dk : (k : Int) < (n : Int) := by omega
        have hkc2 : k * (c + 5) ≤ 2 * (c + 5) := Nat.mul_le_mul_right _ (by omega)
        have hs1 : (k + 1) * (c + 5) = k * (c + 5) + (c + 5) := Nat.succ_mul _ _
        rcases Nat.eq_zero_or_pos k with h0 | h0
        · subst h0
          go_wp2_with fail
          refine (ih _ W HMK.out (by rw [hc]; omega) _ (by omega)).mono ?_
          rintro e W5 ⟨y, hy, rfl, hM5⟩
          have hyz : y.size ≤ 6396 := by rw [← byt_len]; have := pyN_len d _ hy; omega
          rw [hc] at hM5
          have HM5 := Lib.hid (And.intro hM5 hy)
          clear hM5 hy
          go_wp2_with fail
          go_roundw
          case rel =>
            have hb : byt (x ++ y) = byt p ++ 91 :: byt y := by
              have h1 := HK.out.2.1
              cases h1
              rw [byt_append, HK.out.1]; simp
            exact ⟨1, x ++ y, byt y, by omega, by rw [ByteArray.size_append]; omega, rfl, by go_num, hb, .one _ HM5.out.2, HM5.out.1.le (by omega)⟩
          case measure => simp [intOf]; omega
        · have d0 : (0 : Int) < (k : Int) := by omega
          go_wp2_with fail
          refine (n_at hp HMK.out 2 (by omega) (by omega) (by omega)).mono ?_
          rintro e W5 ⟨j, hj, rfl, hM5, -⟩
          have HM5 := Lib.hid hM5
          clear hM5
          go_wp2_with fail
          refine (spaces_at (1 + j) _ (by omega) W5 (by omega)).mono ?_
          rintro e W6 ⟨rfl, rfl⟩
          obtain ⟨sp, hsp⟩ : ∃ sp, strOfNums (List.replicate (1 + j) 32) = sp := ⟨_, rfl⟩
          have hspb : byt sp = List.replicate (1 + j) 32 := by rw [← hsp]; exact byt_strOfNums _ (by intro z hz; rw [List.eq_of_mem_replicate hz]; omega)
          have hspz : sp.size ≤ 2 := by rw [← byt_len, hspb, List.length_replicate]; omega
          rw [hsp]
          clear hsp
          obtain ⟨u1, hu1⟩ : ∃ u1, (⟨#[44]⟩ : ByteArray) ++ sp = u1 := ⟨_, rfl⟩
          have hu1b : byt u1 = 44 :: List.replicate (1 + j) 32 := by rw [← hu1, byt_append, hspb]; rfl
          have hu1z : u1.size ≤ 3 := by rw [← byt_len, hu1b]; simp; omega
          obtain ⟨u2, hu2⟩ : ∃ u2, x ++ u1 = u2 := ⟨_, rfl⟩
          have hu2b : byt u2 = byt x ++ 44 :: List.replicate (1 + j) 32 := by rw [← hu2, byt_append, hu1b]
          have hu2z : u2.size ≤ 10 + k * 6500 := by rw [← hu2, ByteArray.size_append]; omega
          have HU := Lib.hid hu2b
          clear hspb hu1b hu2b
          go_wp2_with fail
          refine (ih _ W5 HM5.out (by rw [hc]; omega) _ (by omega)).mono ?_
          rintro e W7 ⟨y, hy, rfl, hM7⟩
          have hyz : y.size ≤ 6396 := by rw [← byt_len]; have := pyN_len d _ hy; omega
          rw [hc] at hM7
          have HM7 := Lib.hid (And.intro hM7 hy)
          clear hM7 hy hu1 hu2
          go_wp2_with fail
          go_roundw
          case rel =>
            obtain ⟨k', rfl⟩ : ∃ k', k = k' + 1 := ⟨k - 1, by omega⟩
            have hb : byt (u2 ++ y) = byt p ++ 91 :: (its ++ 44 :: (List.replicate (1 + j) 32 ++ byt y)) := by
              rw [byt_append, HU.out, HK.out.1]; simp
            exact ⟨k' + 1 + 1, u2 ++ y, _, by omega, by rw [ByteArray.size_append]; omega, rfl, by go_num, hb, .more k' its (byt y) (1 + j) HK.out.2.1 HM7.out.2 (by omega) (by omega), HM7.out.1.le (by omega)⟩
          case measure => simp [intOf]; omega
      · obtain rfl : k = n := by omega
        go_wp2_with fail
        refine (n_at hp HMK.out 2 (by omega) (by omega) (by omega)).mono ?_
        rintro e W5 ⟨j, hj, rfl, hM5, -⟩
        have HM5 := Lib.hid hM5
        clear hM5
        go_wp2_with fail
        refine (spaces_at j _ rfl W5 (by omega)).mono ?_
        rintro e W6 ⟨rfl, rfl⟩
        obtain ⟨sp, hsp⟩ : ∃ sp, strOfNums (List.replicate j 32) = sp := ⟨_, rfl⟩
        have hspb : byt sp = List.replicate j 32 := by rw [← hsp]; exact byt_strOfNums _ (by intro z hz; rw [List.eq_of_mem_replicate hz]; omega)
        have hspz : sp.size ≤ 1 := by rw [← byt_len, hspb, List.length_replicate]; omega
        rw [hsp]
        clear hsp
        obtain ⟨u1, hu1⟩ : ∃ u1, x ++ sp = u1 := ⟨_, rfl⟩
        have hu1b : byt u1 = byt x ++ List.replicate j 32 := by rw [← hu1, byt_append, hspb]
        have hu1z : u1.size ≤ 8 + k * 6500 := by rw [← hu1, ByteArray.size_append]; omega
        have HU := Lib.hid hu1b
        clear hspb hu1b
        go_wp2_with fail
        go_ret
        refine ⟨_, .inr (.inl ⟨byt p, its, k, j, HPP.out, by omega, HK.out.2.1, by omega, ?_⟩), rfl, HM5.out.le (by omega)⟩
        rw [byt_append, HU.out, HK.out.1]
        have : byt (⟨#[93]⟩ : ByteArray) = [93] := rfl
        rw [this]; simp
  · simp only [show ((1 : Nat) : Int) = 1 from rfl]
    go_wp2_with fail
    refine (props_at hp W2 HM2.out (by omega)).mono ?_
    rintro e W3 ⟨p, hpP, rfl, hM3⟩
    have hpz : p.size ≤ 6 := by rw [← byt_len]; exact pyP_len hpP
    have HPP := Lib.hid hpP
    have HM3 := Lib.hid hM3
    clear hM3 hpP HM2 H2 c4
    obtain ⟨s0, hs0⟩ : ∃ s0, p ++ (⟨#[91]⟩ : ByteArray) = s0 := ⟨_, rfl⟩
    have hsb0 : byt s0 = byt p ++ [91] := by rw [← hs0, byt_append]; rfl
    have hsz0 : s0.size ≤ 7 := by rw [← byt_len, hsb0, List.length_append, byt_len]; simp; omega
    have HSB := Lib.hid hsb0
    clear hsb0
    go_wp2_with fail
    refine (n_at hp HM3.out 4 (by omega) (by omega) (by omega)).mono ?_
    rintro e W4 ⟨n, hn, rfl, hM4, -⟩
    have HM4 := Lib.hid hM4
    clear hM4 HM3
    go_wp2_with fail
    clear hs0
    go_loopw [6, 8] (fun s i W => ∃ (k : Nat) (x : ByteArray) (its : List Int), k ≤ n ∧ x.size ≤ 7 + k * 6500 ∧ s = .string x ∧ i = .int .i64 (k : Int) ∧ Hid (byt x = byt p ++ 91 :: its ∧ PyI (PyN d) k its ∧ Mk w A1 n1 c1 A2 n2 c2 R (K + 6 + k * (c + 5)) W)) (fun _ i _ => n - (intOf i).toNat)
    case atStart => exact ⟨0, s0, [], by omega, by omega, rfl, rfl, HSB.out, .nil, HM4.out.le (by omega)⟩
    case round =>
      obtain ⟨k, x, its, hk, hx, rfl, rfl, HK⟩ := hrel
      obtain ⟨W, hW⟩ : ∃ x, x = wr := ⟨_, rfl⟩
      subst hW
      have hkc : k * (c + 5) ≤ 3 * (c + 5) := Nat.mul_le_mul_right _ (by omega)
      have HMK := Lib.hid HK.out.2.2
      by_cases hlt : k < n
      · have dk : (k : Int) < (n : Int) := by omega
        have hkc2 : k * (c + 5) ≤ 2 * (c + 5) := Nat.mul_le_mul_right _ (by omega)
        have hs1 : (k + 1) * (c + 5) = k * (c + 5) + (c + 5) := Nat.succ_mul _ _
        rcases Nat.eq_zero_or_pos k with h0 | h0
        · subst h0
          go_wp2_with fail
          refine (ih _ W HMK.out (by rw [hc]; omega) _ (by omega)).mono ?_
          rintro e W5 ⟨y, hy, rfl, hM5⟩
          have hyz : y.size ≤ 6396 := by rw [← byt_len]; have := pyN_len d _ hy; omega
          rw [hc] at hM5
          have HM5 := Lib.hid (And.intro hM5 hy)
          clear hM5 hy
          go_wp2_with fail
          go_roundw
          case rel =>
            have hb : byt (x ++ y) = byt p ++ 91 :: byt y := by
              have h1 := HK.out.2.1
              cases h1
              rw [byt_append, HK.out.1]; simp
            exact ⟨1, x ++ y, byt y, by omega, by rw [ByteArray.size_append]; omega, rfl, by go_num, hb, .one _ HM5.out.2, HM5.out.1.le (by omega)⟩
          case measure => simp [intOf]; omega
        · have d0 : (0 : Int) < (k : Int) := by omega
          go_wp2_with fail
          refine (n_at hp HMK.out 2 (by omega) (by omega) (by omega)).mono ?_
          rintro e W5 ⟨j, hj, rfl, hM5, -⟩
          have HM5 := Lib.hid hM5
          clear hM5
          go_wp2_with fail
          refine (spaces_at (1 + j) _ (by omega) W5 (by omega)).mono ?_
          rintro e W6 ⟨rfl, rfl⟩
          obtain ⟨sp, hsp⟩ : ∃ sp, strOfNums (List.replicate (1 + j) 32) = sp := ⟨_, rfl⟩
          have hspb : byt sp = List.replicate (1 + j) 32 := by rw [← hsp]; exact byt_strOfNums _ (by intro z hz; rw [List.eq_of_mem_replicate hz]; omega)
          have hspz : sp.size ≤ 2 := by rw [← byt_len, hspb, List.length_replicate]; omega
          rw [hsp]
          clear hsp
          obtain ⟨u1, hu1⟩ : ∃ u1, (⟨#[44]⟩ : ByteArray) ++ sp = u1 := ⟨_, rfl⟩
          have hu1b : byt u1 = 44 :: List.replicate (1 + j) 32 := by rw [← hu1, byt_append, hspb]; rfl
          have hu1z : u1.size ≤ 3 := by rw [← byt_len, hu1b]; simp; omega
          obtain ⟨u2, hu2⟩ : ∃ u2, x ++ u1 = u2 := ⟨_, rfl⟩
          have hu2b : byt u2 = byt x ++ 44 :: List.replicate (1 + j) 32 := by rw [← hu2, byt_append, hu1b]
          have hu2z : u2.size ≤ 10 + k * 6500 := by rw [← hu2, ByteArray.size_append]; omega
          have HU := Lib.hid hu2b
          clear hspb hu1b hu2b
          go_wp2_with fail
          refine (ih _ W5 HM5.out (by rw [hc]; omega) _ (by omega)).mono ?_
          rintro e W7 ⟨y, hy, rfl, hM7⟩
          have hyz : y.size ≤ 6396 := by rw [← byt_len]; have := pyN_len d _ hy; omega
          rw [hc] at hM7
          have HM7 := Lib.hid (And.intro hM7 hy)
          clear hM7 hy hu1 hu2
          go_wp2_with fail
          go_roundw
          case rel =>
            obtain ⟨k', rfl⟩ : ∃ k', k = k' + 1 := ⟨k - 1, by omega⟩
            have hb : byt (u2 ++ y) = byt p ++ 91 :: (its ++ 44 :: (List.replicate (1 + j) 32 ++ byt y)) := by
              rw [byt_append, HU.out, HK.out.1]; simp
            exact ⟨k' + 1 + 1, u2 ++ y, _, by omega, by rw [ByteArray.size_append]; omega, rfl, by go_num, hb, .more k' its (byt y) (1 + j) HK.out.2.1 HM7.out.2 (by omega) (by omega), HM7.out.1.le (by omega)⟩
          case measure => simp [intOf]; omega
      · obtain rfl : k = n := by omega
        go_wp2_with fail
        refine (n_at hp HMK.out 2 (by omega) (by omega) (by omega)).mono ?_
        rintro e W5 ⟨j, hj, rfl, hM5, -⟩
        have HM5 := Lib.hid hM5
        clear hM5
        go_wp2_with fail
        refine (spaces_at j _ rfl W5 (by omega)).mono ?_
        rintro e W6 ⟨rfl, rfl⟩
        obtain ⟨sp, hsp⟩ : ∃ sp, strOfNums (List.replicate j 32) = sp := ⟨_, rfl⟩
        have hspb : byt sp = List.replicate j 32 := by rw [← hsp]; exact byt_strOfNums _ (by intro z hz; rw [List.eq_of_mem_replicate hz]; omega)
        have hspz : sp.size ≤ 1 := by rw [← byt_len, hspb, List.length_replicate]; omega
        rw [hsp]
        clear hsp
        obtain ⟨u1, hu1⟩ : ∃ u1, x ++ sp = u1 := ⟨_, rfl⟩
        have hu1b : byt u1 = byt x ++ List.replicate j 32 := by rw [← hu1, byt_append, hspb]
        have hu1z : u1.size ≤ 8 + k * 6500 := by rw [← hu1, ByteArray.size_append]; omega
        have HU := Lib.hid hu1b
        clear hspb hu1b
        go_wp2_with fail
        go_ret
        refine ⟨_, .inr (.inl ⟨byt p, its, k, j, HPP.out, by omega, HK.out.2.1, by omega, ?_⟩), rfl, HM5.out.le (by omega)⟩
        rw [byt_append, HU.out, HK.out.1]
        have : byt (⟨#[93]⟩ : ByteArray) = [93] := rfl
        rw [this]; simp
  · simp only [show ((2 : Nat) : Int) = 2 from rfl]
    go_wp2_with fail
    refine (props_at hp W2 HM2.out (by omega)).mono ?_
    rintro e W3 ⟨p, hpP, rfl, hM3⟩
    have hpz : p.size ≤ 6 := by rw [← byt_len]; exact pyP_len hpP
    have HPP := Lib.hid hpP
    have HM3 := Lib.hid hM3
    clear hM3 hpP HM2 H2 c4
    obtain ⟨s0, hs0⟩ : ∃ s0, p ++ (⟨#[123]⟩ : ByteArray) = s0 := ⟨_, rfl⟩
    have hsb0 : byt s0 = byt p ++ [123] := by rw [← hs0, byt_append]; rfl
    have hsz0 : s0.size ≤ 7 := by rw [← byt_len, hsb0, List.length_append, byt_len]; simp; omega
    have HSB := Lib.hid hsb0
    clear hsb0
    go_wp2_with fail
    refine (n_at hp HM3.out 2 (by omega) (by omega) (by omega)).mono ?_
    rintro e W4 ⟨b, hb2, rfl, hM4, -⟩
    have HM4 := Lib.hid hM4
    clear hM4 HM3
    go_wp2_with fail
    refine (spaces_at b _ rfl W4 (by omega)).mono ?_
    rintro e W4' ⟨rfl, rfl⟩
    obtain ⟨sp0, hsp0⟩ : ∃ sp, strOfNums (List.replicate b 32) = sp := ⟨_, rfl⟩
    have hspb0 : byt sp0 = List.replicate b 32 := by rw [← hsp0]; exact byt_strOfNums _ (by intro z hz; rw [List.eq_of_mem_replicate hz]; omega)
    have hspz0 : sp0.size ≤ 1 := by rw [← byt_len, hspb0, List.length_replicate]; omega
    rw [hsp0]
    clear hsp0
    obtain ⟨s1, hs1⟩ : ∃ s1, s0 ++ sp0 = s1 := ⟨_, rfl⟩
    have hsb1 : byt s1 = byt p ++ 123 :: (List.replicate b 32 ++ []) := by rw [← hs1, byt_append, hspb0, HSB.out]; simp
    have hsz1 : s1.size ≤ 8 := by rw [← hs1, ByteArray.size_append]; omega
    have HS1 := Lib.hid hsb1
    clear hsb1 hspb0
    go_wp2_with fail
    refine (n_at hp HM4.out 4 (by omega) (by omega) (by omega)).mono ?_
    rintro e W5 ⟨n, hn, rfl, hM5, -⟩
    have HM5 := Lib.hid hM5
    clear hM5 HM4
    go_wp2_with fail
    clear hs0 hs1
    go_loopw [9, 11] (fun s i W => ∃ (k : Nat) (x : ByteArray) (es : List Int), k ≤ n ∧ x.size ≤ 8 + k * 6500 ∧ s = .string x ∧ i = .int .i64 (k : Int) ∧ Hid (byt x = byt p ++ 123 :: (List.replicate b 32 ++ es) ∧ PyE (PyN d) k es ∧ Mk w A1 n1 c1 A2 n2 c2 R (K + 7 + k * (c + 5)) W)) (fun _ i _ => n - (intOf i).toNat)
    case atStart => exact ⟨0, s1, [], by omega, by omega, rfl, rfl, HS1.out, .nil, HM5.out.le (by omega)⟩
    case round =>
      obtain ⟨k, x, es, hk, hx, rfl, rfl, HK⟩ := hrel
      obtain ⟨W, hW⟩ : ∃ x, x = wr := ⟨_, rfl⟩
      subst hW
      have hkc : k * (c + 5) ≤ 3 * (c + 5) := Nat.mul_le_mul_right _ (by omega)
      have HMK := Lib.hid HK.out.2.2
      by_cases hlt : k < n
      · have dk : (k : Int) < (n : Int) := by omega
        have hkc2 : k * (c + 5) ≤ 2 * (c + 5) := Nat.mul_le_mul_right _ (by omega)
        have hs1 : (k + 1) * (c + 5) = k * (c + 5) + (c + 5) := Nat.succ_mul _ _
        rcases Nat.eq_zero_or_pos k with h0 | h0
        · subst h0
          obtain ⟨x1, hx1⟩ : ∃ x1, x = x1 := ⟨_, rfl⟩
          have HX1 : Hid (byt x1 = byt x) := by show _ = _; rw [hx1]
          have hx1z : x1.size ≤ 10 := by rw [← hx1]; omega
          rw [hx1]
          clear hx1
          go_wp2_with fail
          refine (key_0 hp W HMK.out (by omega)).mono ?_
          rintro e W5 ⟨ky, hky, rfl, hM5⟩
          have hkyz : ky.size ≤ 5 := by rw [← byt_len]; exact (pyK_len hky).2
          have HKY := Lib.hid hky
          have HM5 := Lib.hid hM5
          clear hM5 hky
          obtain ⟨u1, hu1⟩ : ∃ u1, ky ++ (⟨#[58]⟩ : ByteArray) = u1 := ⟨_, rfl⟩
          have hu1b : byt u1 = byt ky ++ [58] := by rw [← hu1, byt_append]; rfl
          have hu1z : u1.size ≤ 6 := by rw [← byt_len, hu1b, List.length_append, byt_len]; simp; omega
          have HU1 := Lib.hid hu1b
          clear hu1b
          go_wp2_with fail
          refine (n_at hp HM5.out 2 (by omega) (by omega) (by omega)).mono ?_
          rintro e W6 ⟨j, hj, rfl, hM6, -⟩
          have HM6 := Lib.hid hM6
          clear hM6 HM5
          go_wp2_with fail
          refine (spaces_at (1 + j) _ (by omega) W6 (by omega)).mono ?_
          rintro e W7 ⟨rfl, rfl⟩
          obtain ⟨sp, hsp⟩ : ∃ sp, strOfNums (List.replicate (1 + j) 32) = sp := ⟨_, rfl⟩
          have hspb : byt sp = List.replicate (1 + j) 32 := by rw [← hsp]; exact byt_strOfNums _ (by intro z hz; rw [List.eq_of_mem_replicate hz]; omega)
          have hspz : sp.size ≤ 2 := by rw [← byt_len, hspb, List.length_replicate]; omega
          rw [hsp]
          clear hsp
          obtain ⟨u2, hu2⟩ : ∃ u2, u1 ++ sp = u2 := ⟨_, rfl⟩
          have hu2b : byt u2 = byt ky ++ 58 :: List.replicate (1 + j) 32 := by rw [← hu2, byt_append, hspb, HU1.out]; simp
          have hu2z : u2.size ≤ 8 := by rw [← hu2, ByteArray.size_append]; omega
          obtain ⟨u3, hu3⟩ : ∃ u3, x1 ++ u2 = u3 := ⟨_, rfl⟩
          have hu3b : byt u3 = byt x1 ++ (byt ky ++ 58 :: List.replicate (1 + j) 32) := by rw [← hu3, byt_append, hu2b]
          have hu3z : u3.size ≤ 20 := by rw [← hu3, ByteArray.size_append]; omega
          have HU3 := Lib.hid hu3b
          clear hspb hu2b hu3b
          go_wp2_with fail
          refine (n_at hp HM6.out 7 (by omega) (by omega) (by omega)).mono ?_
          rintro e W8 ⟨q, hq, rfl, hM8, -⟩
          have HM8 := Lib.hid hM8
          clear hM8 HM6 hu1 hu2 hu3
          rcases Nat.eq_zero_or_pos q with hq0 | hq0
          · subst hq0
            go_wp2_with fail
            go_roundw
            case rel =>
              have hb : byt u3 = byt p ++ 123 :: (List.replicate b 32 ++ (byt ky ++ 58 :: (List.replicate (1 + j) 32 ++ []))) := by
                have h1 := HK.out.2.1
                cases h1
                rw [HU3.out, HX1.out, HK.out.1]; simp
              exact ⟨1, u3, _, by omega, by omega, rfl, by go_num, hb, .one _ (pyE1_mk HKY.out (.inl rfl) (by omega) (by omega)), HM8.out.le (by omega)⟩
            case measure => simp [intOf]; omega
          · have dq : (0 : Int) < (q : Int) := by omega
            go_wp2_with fail
            refine (ih _ W8 HM8.out (by rw [hc]; omega) _ (by omega)).mono ?_
            rintro e W9 ⟨y, hy, rfl, hM9⟩
            have hyz : y.size ≤ 6396 := by rw [← byt_len]; have := pyN_len d _ hy; omega
            rw [hc] at hM9
            have HM9 := Lib.hid (And.intro hM9 hy)
            clear hM9 hy
            go_wp2_with fail
            go_roundw
            case rel =>
              have hb : byt (u3 ++ y) = byt p ++ 123 :: (List.replicate b 32 ++ (byt ky ++ 58 :: (List.replicate (1 + j) 32 ++ byt y))) := by
                have h1 := HK.out.2.1
                cases h1
                rw [byt_append, HU3.out, HX1.out, HK.out.1]; simp
              exact ⟨1, u3 ++ y, _, by omega, by rw [ByteArray.size_append]; omega, rfl, by go_num, hb, .one _ (pyE1_mk HKY.out (.inr HM9.out.2) (by omega) (by omega)), HM9.out.1.le (by omega)⟩
            case measure => simp [intOf]; omega
        · have d0 : (0 : Int) < (k : Int) := by omega
          obtain ⟨x1, hx1⟩ : ∃ x1, x ++ (⟨#[44, 32]⟩ : ByteArray) = x1 := ⟨_, rfl⟩
          have HX1 : Hid (byt x1 = byt x ++ [44, 32]) := by show _ = _; rw [← hx1, byt_append]; rfl
          have hx1z : x1.size ≤ 10 + k * 6500 := by rw [← byt_len, HX1.out, List.length_append, byt_len]; simp; omega
          go_wp2_with fail
          clear hx1
          refine (pkey_at hp W HMK.out (by omega) k (by omega)).mono ?_
          rintro e W5 ⟨ky, hky, rfl, hM5⟩
          have hkyz : ky.size ≤ 5 := by rw [← byt_len]; exact (pyK_len hky).2
          have HKY := Lib.hid hky
          have HM5 := Lib.hid hM5
          clear hM5 hky
          obtain ⟨u1, hu1⟩ : ∃ u1, ky ++ (⟨#[58]⟩ : ByteArray) = u1 := ⟨_, rfl⟩
          have hu1b : byt u1 = byt ky ++ [58] := by rw [← hu1, byt_append]; rfl
          have hu1z : u1.size ≤ 6 := by rw [← byt_len, hu1b, List.length_append, byt_len]; simp; omega
          have HU1 := Lib.hid hu1b
          clear hu1b
          go_wp2_with fail
          refine (n_at hp HM5.out 2 (by omega) (by omega) (by omega)).mono ?_
          rintro e W6 ⟨j, hj, rfl, hM6, -⟩
          have HM6 := Lib.hid hM6
          clear hM6 HM5
          go_wp2_with fail
          refine (spaces_at (1 + j) _ (by omega) W6 (by omega)).mono ?_
          rintro e W7 ⟨rfl, rfl⟩
          obtain ⟨sp, hsp⟩ : ∃ sp, strOfNums (List.replicate (1 + j) 32) = sp := ⟨_, rfl⟩
          have hspb : byt sp = List.replicate (1 + j) 32 := by rw [← hsp]; exact byt_strOfNums _ (by intro z hz; rw [List.eq_of_mem_replicate hz]; omega)
          have hspz : sp.size ≤ 2 := by rw [← byt_len, hspb, List.length_replicate]; omega
          rw [hsp]
          clear hsp
          obtain ⟨u2, hu2⟩ : ∃ u2, u1 ++ sp = u2 := ⟨_, rfl⟩
          have hu2b : byt u2 = byt ky ++ 58 :: List.replicate (1 + j) 32 := by rw [← hu2, byt_append, hspb, HU1.out]; simp
          have hu2z : u2.size ≤ 8 := by rw [← hu2, ByteArray.size_append]; omega
          obtain ⟨u3, hu3⟩ : ∃ u3, x1 ++ u2 = u3 := ⟨_, rfl⟩
          have hu3b : byt u3 = byt x1 ++ (byt ky ++ 58 :: List.replicate (1 + j) 32) := by rw [← hu3, byt_append, hu2b]
          have hu3z : u3.size ≤ 20 + k * 6500 := by rw [← hu3, ByteArray.size_append]; omega
          have HU3 := Lib.hid hu3b
          clear hspb hu2b hu3b
          go_wp2_with fail
          refine (n_at hp HM6.out 7 (by omega) (by omega) (by omega)).mono ?_
          rintro e W8 ⟨q, hq, rfl, hM8, -⟩
          have HM8 := Lib.hid hM8
          clear hM8 HM6 hu1 hu2 hu3
          rcases Nat.eq_zero_or_pos q with hq0 | hq0
          · subst hq0
            go_wp2_with fail
            go_roundw
            case rel =>
              obtain ⟨k', rfl⟩ : ∃ k', k = k' + 1 := ⟨k - 1, by omega⟩
              have hb : byt u3 = byt p ++ 123 :: (List.replicate b 32 ++ (es ++ 44 :: 32 :: (byt ky ++ 58 :: (List.replicate (1 + j) 32 ++ [])))) := by
                rw [HU3.out, HX1.out, HK.out.1]; simp
              exact ⟨k' + 1 + 1, u3, _, by omega, by omega, rfl, by go_num, hb, .more k' es _ HK.out.2.1 (pyE1_mk HKY.out (.inl rfl) (by omega) (by omega)), HM8.out.le (by omega)⟩
            case measure => simp [intOf]; omega
          · have dq : (0 : Int) < (q : Int) := by omega
            go_wp2_with fail
            refine (ih _ W8 HM8.out (by rw [hc]; omega) _ (by omega)).mono ?_
            rintro e W9 ⟨y, hy, rfl, hM9⟩
            have hyz : y.size ≤ 6396 := by rw [← byt_len]; have := pyN_len d _ hy; omega
            rw [hc] at hM9
            have HM9 := Lib.hid (And.intro hM9 hy)
            clear hM9 hy
            go_wp2_with fail
            go_roundw
            case rel =>
              obtain ⟨k', rfl⟩ : ∃ k', k = k' + 1 := ⟨k - 1, by omega⟩
              have hb : byt (u3 ++ y) = byt p ++ 123 :: (List.replicate b 32 ++ (es ++ 44 :: 32 :: (byt ky ++ 58 :: (List.replicate (1 + j) 32 ++ byt y)))) := by
                rw [byt_append, HU3.out, HX1.out, HK.out.1]; simp
              exact ⟨k' + 1 + 1, u3 ++ y, _, by omega, by rw [ByteArray.size_append]; omega, rfl, by go_num, hb, .more k' es _ HK.out.2.1 (pyE1_mk HKY.out (.inr HM9.out.2) (by omega) (by omega)), HM9.out.1.le (by omega)⟩
            case measure => simp [intOf]; omega
      · obtain rfl : k = n := by omega
        go_wp2_with fail
        go_ret
        refine ⟨_, .inr (.inr ⟨byt p, es, k, b, HPP.out, by omega, HK.out.2.1, by omega, ?_⟩), rfl, HMK.out.le (by omega)⟩
        rw [byt_append, HK.out.1]
        have : byt (⟨#[125]⟩ : ByteArray) = [125] := rfl
        rw [this]; simp
  · simp only [show ((3 : Nat) : Int) = 3 from rfl]
    go_wp2_with fail
    refine (props_at hp W2 HM2.out (by omega)).mono ?_
    rintro e W3 ⟨p, hpP, rfl, hM3⟩
    have hpz : p.size ≤ 6 := by rw [← byt_len]; exact pyP_len hpP
    have HPP := Lib.hid hpP
    have HM3 := Lib.hid hM3
    clear hM3 hpP HM2 H2 c4
    obtain ⟨s0, hs0⟩ : ∃ s0, p ++ (⟨#[123]⟩ : ByteArray) = s0 := ⟨_, rfl⟩
    have hsb0 : byt s0 = byt p ++ [123] := by rw [← hs0, byt_append]; rfl
    have hsz0 : s0.size ≤ 7 := by rw [← byt_len, hsb0, List.length_append, byt_len]; simp; omega
    have HSB := Lib.hid hsb0
    clear hsb0
    go_wp2_with fail
    refine (n_at hp HM3.out 2 (by omega) (by omega) (by omega)).mono ?_
    rintro e W4 ⟨b, hb2, rfl, hM4, -⟩
    have HM4 := Lib.hid hM4
    clear hM4 HM3
    go_wp2_with fail
    refine (spaces_at b _ rfl W4 (by omega)).mono ?_
    rintro e W4' ⟨rfl, rfl⟩
    obtain ⟨sp0, hsp0⟩ : ∃ sp, strOfNums (List.replicate b 32) = sp := ⟨_, rfl⟩
    have hspb0 : byt sp0 = List.replicate b 32 := by rw [← hsp0]; exact byt_strOfNums _ (by intro z hz; rw [List.eq_of_mem_replicate hz]; omega)
    have hspz0 : sp0.size ≤ 1 := by rw [← byt_len, hspb0, List.length_replicate]; omega
    rw [hsp0]
    clear hsp0
    obtain ⟨s1, hs1⟩ : ∃ s1, s0 ++ sp0 = s1 := ⟨_, rfl⟩
    have hsb1 : byt s1 = byt p ++ 123 :: (List.replicate b 32 ++ []) := by rw [← hs1, byt_append, hspb0, HSB.out]; simp
    have hsz1 : s1.size ≤ 8 := by rw [← hs1, ByteArray.size_append]; omega
    have HS1 := Lib.hid hsb1
    clear hsb1 hspb0
    go_wp2_with fail
    refine (n_at hp HM4.out 4 (by omega) (by omega) (by omega)).mono ?_
    rintro e W5 ⟨n, hn, rfl, hM5, -⟩
    have HM5 := Lib.hid hM5
    clear hM5 HM4
    go_wp2_with fail
    clear hs0 hs1
    go_loopw [9, 11] (fun s i W => ∃ (k : Nat) (x : ByteArray) (es : List Int), k ≤ n ∧ x.size ≤ 8 + k * 6500 ∧ s = .string x ∧ i = .int .i64 (k : Int) ∧ Hid (byt x = byt p ++ 123 :: (List.replicate b 32 ++ es) ∧ PyE (PyN d) k es ∧ Mk w A1 n1 c1 A2 n2 c2 R (K + 7 + k * (c + 5)) W)) (fun _ i _ => n - (intOf i).toNat)
    case atStart => exact ⟨0, s1, [], by omega, by omega, rfl, rfl, HS1.out, .nil, HM5.out.le (by omega)⟩
    case round =>
      obtain ⟨k, x, es, hk, hx, rfl, rfl, HK⟩ := hrel
      obtain ⟨W, hW⟩ : ∃ x, x = wr := ⟨_, rfl⟩
      subst hW
      have hkc : k * (c + 5) ≤ 3 * (c + 5) := Nat.mul_le_mul_right _ (by omega)
      have HMK := Lib.hid HK.out.2.2
      by_cases hlt : k < n
      · have dk : (k : Int) < (n : Int) := by omega
        have hkc2 : k * (c + 5) ≤ 2 * (c + 5) := Nat.mul_le_mul_right _ (by omega)
        have hs1 : (k + 1) * (c + 5) = k * (c + 5) + (c + 5) := Nat.succ_mul _ _
        rcases Nat.eq_zero_or_pos k with h0 | h0
        · subst h0
          obtain ⟨x1, hx1⟩ : ∃ x1, x = x1 := ⟨_, rfl⟩
          have HX1 : Hid (byt x1 = byt x) := by show _ = _; rw [hx1]
          have hx1z : x1.size ≤ 10 := by rw [← hx1]; omega
          rw [hx1]
          clear hx1
          go_wp2_with fail
          refine (key_0 hp W HMK.out (by omega)).mono ?_
          rintro e W5 ⟨ky, hky, rfl, hM5⟩
          have hkyz : ky.size ≤ 5 := by rw [← byt_len]; exact (pyK_len hky).2
          have HKY := Lib.hid hky
          have HM5 := Lib.hid hM5
          clear hM5 hky
          obtain ⟨u1, hu1⟩ : ∃ u1, ky ++ (⟨#[58]⟩ : ByteArray) = u1 := ⟨_, rfl⟩
          have hu1b : byt u1 = byt ky ++ [58] := by rw [← hu1, byt_append]; rfl
          have hu1z : u1.size ≤ 6 := by rw [← byt_len, hu1b, List.length_append, byt_len]; simp; omega
          have HU1 := Lib.hid hu1b
          clear hu1b
          go_wp2_with fail
          refine (n_at hp HM5.out 2 (by omega) (by omega) (by omega)).mono ?_
          rintro e W6 ⟨j, hj, rfl, hM6, -⟩
          have HM6 := Lib.hid hM6
          clear hM6 HM5
          go_wp2_with fail
          refine (spaces_at (1 + j) _ (by omega) W6 (by omega)).mono ?_
          rintro e W7 ⟨rfl, rfl⟩
          obtain ⟨sp, hsp⟩ : ∃ sp, strOfNums (List.replicate (1 + j) 32) = sp := ⟨_, rfl⟩
          have hspb : byt sp = List.replicate (1 + j) 32 := by rw [← hsp]; exact byt_strOfNums _ (by intro z hz; rw [List.eq_of_mem_replicate hz]; omega)
          have hspz : sp.size ≤ 2 := by rw [← byt_len, hspb, List.length_replicate]; omega
          rw [hsp]
          clear hsp
          obtain ⟨u2, hu2⟩ : ∃ u2, u1 ++ sp = u2 := ⟨_, rfl⟩
          have hu2b : byt u2 = byt ky ++ 58 :: List.replicate (1 + j) 32 := by rw [← hu2, byt_append, hspb, HU1.out]; simp
          have hu2z : u2.size ≤ 8 := by rw [← hu2, ByteArray.size_append]; omega
          obtain ⟨u3, hu3⟩ : ∃ u3, x1 ++ u2 = u3 := ⟨_, rfl⟩
          have hu3b : byt u3 = byt x1 ++ (byt ky ++ 58 :: List.replicate (1 + j) 32) := by rw [← hu3, byt_append, hu2b]
          have hu3z : u3.size ≤ 20 := by rw [← hu3, ByteArray.size_append]; omega
          have HU3 := Lib.hid hu3b
          clear hspb hu2b hu3b
          go_wp2_with fail
          refine (n_at hp HM6.out 7 (by omega) (by omega) (by omega)).mono ?_
          rintro e W8 ⟨q, hq, rfl, hM8, -⟩
          have HM8 := Lib.hid hM8
          clear hM8 HM6 hu1 hu2 hu3
          rcases Nat.eq_zero_or_pos q with hq0 | hq0
          · subst hq0
            go_wp2_with fail
            go_roundw
            case rel =>
              have hb : byt u3 = byt p ++ 123 :: (List.replicate b 32 ++ (byt ky ++ 58 :: (List.replicate (1 + j) 32 ++ []))) := by
                have h1 := HK.out.2.1
                cases h1
                rw [HU3.out, HX1.out, HK.out.1]; simp
              exact ⟨1, u3, _, by omega, by omega, rfl, by go_num, hb, .one _ (pyE1_mk HKY.out (.inl rfl) (by omega) (by omega)), HM8.out.le (by omega)⟩
            case measure => simp [intOf]; omega
          · have dq : (0 : Int) < (q : Int) := by omega
            go_wp2_with fail
            refine (ih _ W8 HM8.out (by rw [hc]; omega) _ (by omega)).mono ?_
            rintro e W9 ⟨y, hy, rfl, hM9⟩
            have hyz : y.size ≤ 6396 := by rw [← byt_len]; have := pyN_len d _ hy; omega
            rw [hc] at hM9
            have HM9 := Lib.hid (And.intro hM9 hy)
            clear hM9 hy
            go_wp2_with fail
            go_roundw
            case rel =>
              have hb : byt (u3 ++ y) = byt p ++ 123 :: (List.replicate b 32 ++ (byt ky ++ 58 :: (List.replicate (1 + j) 32 ++ byt y))) := by
                have h1 := HK.out.2.1
                cases h1
                rw [byt_append, HU3.out, HX1.out, HK.out.1]; simp
              exact ⟨1, u3 ++ y, _, by omega, by rw [ByteArray.size_append]; omega, rfl, by go_num, hb, .one _ (pyE1_mk HKY.out (.inr HM9.out.2) (by omega) (by omega)), HM9.out.1.le (by omega)⟩
            case measure => simp [intOf]; omega
        · have d0 : (0 : Int) < (k : Int) := by omega
          obtain ⟨x1, hx1⟩ : ∃ x1, x ++ (⟨#[44, 32]⟩ : ByteArray) = x1 := ⟨_, rfl⟩
          have HX1 : Hid (byt x1 = byt x ++ [44, 32]) := by show _ = _; rw [← hx1, byt_append]; rfl
          have hx1z : x1.size ≤ 10 + k * 6500 := by rw [← byt_len, HX1.out, List.length_append, byt_len]; simp; omega
          go_wp2_with fail
          clear hx1
          refine (pkey_at hp W HMK.out (by omega) k (by omega)).mono ?_
          rintro e W5 ⟨ky, hky, rfl, hM5⟩
          have hkyz : ky.size ≤ 5 := by rw [← byt_len]; exact (pyK_len hky).2
          have HKY := Lib.hid hky
          have HM5 := Lib.hid hM5
          clear hM5 hky
          obtain ⟨u1, hu1⟩ : ∃ u1, ky ++ (⟨#[58]⟩ : ByteArray) = u1 := ⟨_, rfl⟩
          have hu1b : byt u1 = byt ky ++ [58] := by rw [← hu1, byt_append]; rfl
          have hu1z : u1.size ≤ 6 := by rw [← byt_len, hu1b, List.length_append, byt_len]; simp; omega
          have HU1 := Lib.hid hu1b
          clear hu1b
          go_wp2_with fail
          refine (n_at hp HM5.out 2 (by omega) (by omega) (by omega)).mono ?_
          rintro e W6 ⟨j, hj, rfl, hM6, -⟩
          have HM6 := Lib.hid hM6
          clear hM6 HM5
          go_wp2_with fail
          refine (spaces_at (1 + j) _ (by omega) W6 (by omega)).mono ?_
          rintro e W7 ⟨rfl, rfl⟩
          obtain ⟨sp, hsp⟩ : ∃ sp, strOfNums (List.replicate (1 + j) 32) = sp := ⟨_, rfl⟩
          have hspb : byt sp = List.replicate (1 + j) 32 := by rw [← hsp]; exact byt_strOfNums _ (by intro z hz; rw [List.eq_of_mem_replicate hz]; omega)
          have hspz : sp.size ≤ 2 := by rw [← byt_len, hspb, List.length_replicate]; omega
          rw [hsp]
          clear hsp
          obtain ⟨u2, hu2⟩ : ∃ u2, u1 ++ sp = u2 := ⟨_, rfl⟩
          have hu2b : byt u2 = byt ky ++ 58 :: List.replicate (1 + j) 32 := by rw [← hu2, byt_append, hspb, HU1.out]; simp
          have hu2z : u2.size ≤ 8 := by rw [← hu2, ByteArray.size_append]; omega
          obtain ⟨u3, hu3⟩ : ∃ u3, x1 ++ u2 = u3 := ⟨_, rfl⟩
          have hu3b : byt u3 = byt x1 ++ (byt ky ++ 58 :: List.replicate (1 + j) 32) := by rw [← hu3, byt_append, hu2b]
          have hu3z : u3.size ≤ 20 + k * 6500 := by rw [← hu3, ByteArray.size_append]; omega
          have HU3 := Lib.hid hu3b
          clear hspb hu2b hu3b
          go_wp2_with fail
          refine (n_at hp HM6.out 7 (by omega) (by omega) (by omega)).mono ?_
          rintro e W8 ⟨q, hq, rfl, hM8, -⟩
          have HM8 := Lib.hid hM8
          clear hM8 HM6 hu1 hu2 hu3
          rcases Nat.eq_zero_or_pos q with hq0 | hq0
          · subst hq0
            go_wp2_with fail
            go_roundw
            case rel =>
              obtain ⟨k', rfl⟩ : ∃ k', k = k' + 1 := ⟨k - 1, by omega⟩
              have hb : byt u3 = byt p ++ 123 :: (List.replicate b 32 ++ (es ++ 44 :: 32 :: (byt ky ++ 58 :: (List.replicate (1 + j) 32 ++ [])))) := by
                rw [HU3.out, HX1.out, HK.out.1]; simp
              exact ⟨k' + 1 + 1, u3, _, by omega, by omega, rfl, by go_num, hb, .more k' es _ HK.out.2.1 (pyE1_mk HKY.out (.inl rfl) (by omega) (by omega)), HM8.out.le (by omega)⟩
            case measure => simp [intOf]; omega
          · have dq : (0 : Int) < (q : Int) := by omega
            go_wp2_with fail
            refine (ih _ W8 HM8.out (by rw [hc]; omega) _ (by omega)).mono ?_
            rintro e W9 ⟨y, hy, rfl, hM9⟩
            have hyz : y.size ≤ 6396 := by rw [← byt_len]; have := pyN_len d _ hy; omega
            rw [hc] at hM9
            have HM9 := Lib.hid (And.intro hM9 hy)
            clear hM9 hy
            go_wp2_with fail
            go_roundw
            case rel =>
              obtain ⟨k', rfl⟩ : ∃ k', k = k' + 1 := ⟨k - 1, by omega⟩
              have hb : byt (u3 ++ y) = byt p ++ 123 :: (List.replicate b 32 ++ (es ++ 44 :: 32 :: (byt ky ++ 58 :: (List.replicate (1 + j) 32 ++ byt y)))) := by
                rw [byt_append, HU3.out, HX1.out, HK.out.1]; simp
              exact ⟨k' + 1 + 1, u3 ++ y, _, by omega, by rw [ByteArray.size_append]; omega, rfl, by go_num, hb, .more k' es _ HK.out.2.1 (pyE1_mk HKY.out (.inr HM9.out.2) (by omega) (by omega)), HM9.out.1.le (by omega)⟩
            case measure => simp [intOf]; omega
      · obtain rfl : k = n := by omega
        go_wp2_with fail
        go_ret
        refine ⟨_, .inr (.inr ⟨byt p, es, k, b, HPP.out, by omega, HK.out.2.1, by omega, ?_⟩), rfl, HMK.out.le (by omega)⟩
        rw [byt_append, HK.out.1]
        have : byt (⟨#[125]⟩ : ByteArray) = [125] := rfl
        rw [this]; simp
  · simp only [show ((4 : Nat) : Int) = 4 from rfl]
    have c6 := H2.out.c6
    obtain ⟨A, cap, rfl, hmc, hcm, hA0⟩ := own_form H2.out.own
    rcases Nat.eq_zero_or_pos m with hm0 | hm0
    · subst hm0
      clear H2
      go_wp2_with fail
      refine (props_at hp W2 HM2.out (by omega)).mono ?_
      rintro e Wp ⟨p, hpP, rfl, hMp⟩
      have hpz : p.size ≤ 6 := by rw [← byt_len]; exact pyP_len hpP
      have HMp := Lib.hid hMp
      clear hMp
      go_wp2_with fail
      refine (pscalar_at hp Wp HMp.out (by omega)).mono ?_
      rintro e Ws ⟨s, hsS, rfl, hMs⟩
      have hsz : s.size ≤ 202 := by rw [← byt_len]; exact pyS_len hsS
      have HMs := Lib.hid hMs
      clear hMs
      go_wp2_with fail
      go_ret
      exact ⟨p ++ s, PyN.leaf (.inl ⟨byt p, byt s, hpP, hsS, byt_append p s⟩), rfl, HMs.out.le (by omega)⟩
    · have d0 : (0 : Int) < (m : Int) := by omega
      obtain ⟨b, off, rfl, -⟩ := (RdC.own H2.out.own).addr (by rw [List.length_map, H2.out.len]; omega)
      go_wp2_with fail
      obtain ⟨F, HF⟩ : ∃ F : Nat → ByteArray, Hid (∀ q, q < m → os[q]? = some (F q)) := ⟨fun q => os.getD q ⟨#[]⟩, by
        intro q hq
        have hq' : q < os.length := by rw [H2.out.len]; exact hq
        rw [List.getElem?_eq_getElem hq']; simp [List.getD, hq']⟩
      have HC : Hid (∀ V i, MkS w A1 n1 c1 A2 n2 c2 R V i t l nm m (.slice (some ⟨b, off, none⟩) m cap) os → ∀ q, q < m → V.cell? ⟨b, off + q, none⟩ = some (.string (F q))) := by
        intro V i hV q hq
        obtain ⟨b', off', e', hc'⟩ := (RdC.own hV.own) q (.string (F q)) (by rw [List.getElem?_map, HF.out q hq]; rfl)
        injection e' with e'; injection e' with e1 e2; rw [e1, e2]; exact hc'
      go_region_held3 (fun V => V.cell? ⟨R, 6, none⟩ = some (.slice (some ⟨b, off, none⟩) m cap) ∧ ∀ q, q < m → V.cell? ⟨b, off + q, none⟩ = some (.string (F q)))
        (first | exact ⟨c6, HC.out _ _ H2.out⟩ | exact ⟨c6, HC.out _ _ (H2.out.below (Below.refl _ _).drew)⟩ | exact ⟨k6, HC.out _ _ H5.out.1⟩)
        (first | (go_at_call 76; refine (n_s hp (H2.out.below (Below.refl _ _).drew) (by omega) m (by omega) (by omega)).mono ?_; rintro e W5 ⟨j, hj, rfl, h5, -⟩; have k6 := h5.c6; have hgd : NameOk (F j) := h5.good _ (List.mem_of_getElem? (HF.out j hj)); have hszl : (F j).size ≤ 2 := (by have := hgd.size; omega); have hn1 : ¬ 9223372036854775807 < 1 + (F j).size := (by omega); have hn2 : ¬ 9223372036854775807 < 1 + (F j).size + 1 := (by omega); have dj : (j : Int) < (m : Int) := (by omega); have H5 := Lib.hid (And.intro h5 hgd); clear h5 hgd))
      go_wp2_with fail
      go_ret
      obtain ⟨ch, hc1, hc2, hsb⟩ := H5.out.2
      refine ⟨_, PyN.leaf (.inr ⟨ch, hc1, hc2, ?_⟩), rfl, ⟨i + 1, t, l, nm, m, _, os, H5.out.1, by omega, by omega, by omega, by omega, by omega, by omega⟩⟩
      rw [byt_append, byt_append, hsb]; rfl
  · have e0 : ¬ (k : Int) = 0 := by omega
    have e1 : ¬ (k : Int) = 1 := by omega
    have e2 : ¬ (k : Int) = 2 := by omega
    have e3 : ¬ (k : Int) = 3 := by omega
    have e4 : ¬ (k : Int) = 4 := by omega
    clear H2
    go_wp2_with fail
    refine (props_at hp W2 HM2.out (by omega)).mono ?_
    rintro e Wp ⟨p, hpP, rfl, hMp⟩
    have hpz : p.size ≤ 6 := by rw [← byt_len]; exact pyP_len hpP
    have HMp := Lib.hid hMp
    clear hMp
    go_wp2_with fail
    refine (pscalar_at hp Wp HMp.out (by omega)).mono ?_
    rintro e Ws ⟨s, hsS, rfl, hMs⟩
    have hsz : s.size ≤ 202 := by rw [← byt_len]; exact pyS_len hsS
    have HMs := Lib.hid hMs
    clear hMs
    go_wp2_with fail
    go_ret
    exact ⟨p ++ s, PyN.leaf (.inl ⟨byt p, byt s, hpP, hsS, byt_append p s⟩), rfl, HMs.out.le (by omega)⟩
theorem inlineM_at (hp : PlanIn w A1 n1 c1 A2 n2 c2) : ∀ (d : Nat), d ≤ 4 → ∀ (K : Nat) (W0 : World), Mk w A1 n1 c1 A2 n2 c2 R K W0 → K + pyK d ≤ 20000 → ∀ dp : Int, dp = 4 - (d : Int) → Calls Try.prog 64 #[.pointer (some ⟨R, 0, none⟩), .int .i64 dp] W0 (PStrP (Mk w A1 n1 c1 A2 n2 c2 R (K + pyK d)) (PyN d))
  | 0, _, K, W0, h, hK, dp, hdp => inline0_at hp K W0 h (by omega) dp (by omega)
  | d + 1, hd, K, W0, h, hK, dp, hdp => inlineS_at hp d (by omega) (inlineM_at hp d (by omega)) K W0 h hK dp (by omega)
end
set_option maxHeartbeats 1000000 in
/-- A plan's text. -/
theorem play_at {w W : World} {A1 A2 : Option Addr} {n1 c1 n2 c2 : Nat} (hp : PlanIn w A1 n1 c1 A2 n2 c2) (hb : Below w.heap.size w W) :
    Calls Try.prog 38 #[.agg #[.slice A1 n1 c1, .slice A2 n2 c2]] W fun e w' => ∃ s : ByteArray, PyN 4 (byt s) ∧ e = .returned (.string s) ∧ Below w.heap.size w w' := by
  obtain ⟨W1, hW1⟩ : ∃ W1, W.alloc (.cells #[.slice A1 n1 c1, .slice A2 n2 c2] 25) = W1 := ⟨_, rfl⟩
  obtain ⟨W2, hW2⟩ : ∃ W2, W1.alloc (.cells #[.slice A1 n1 c1, .slice A2 n2 c2, .int .i64 0, .int .i64 0, .int .i64 12, .int .i64 0, .slice none 0 0] 88) = W2 := ⟨_, rfl⟩
  have hb1 : Below w.heap.size w W1 := by rw [← hW1]; exact hb.alloc hb.size _
  have hb2 : Below w.heap.size w W2 := by rw [← hW2]; exact hb1.alloc hb1.size _
  have hM : Hid (Mk w A1 n1 c1 A2 n2 c2 W1.heap.size 0 W2) := by
    refine ⟨0, 0, 12, 0, 0, .slice none 0 0, [], ⟨by rw [← hW2]; exact heap_alloc_new _ _, hb1.size, own_nil _ _ _ _, rfl, by intro s hs; simp at hs, (by intro e; cases e), hb2⟩, by omega, by omega, by omega, by omega, by omega, by omega⟩
  have l1 : W1.cell? ⟨W.heap.size, 0, none⟩ = some (.slice A1 n1 c1) := by rw [← hW1]; simp [World.cell?_alloc_new]
  have l2 : W1.cell? ⟨W.heap.size, 1, none⟩ = some (.slice A2 n2 c2) := by rw [← hW1]; simp [World.cell?_alloc_new]
  clear hb hb1 hb2
  go_enter Try.func38, Try.ntmps38
  go_wp2_with fail
  refine (inlineM_at hp 4 (by omega) 0 W2 hM.out (by decide) 0 (by omega)).mono ?_
  rintro e W3 ⟨s, hs, rfl, h3⟩
  have H3 := Lib.hid h3.bel
  clear h3
  go_wp2_with fail
  go_ret
  exact ⟨s, hs, rfl, H3.out⟩
open Go.RowKit Go.ChangeShapes Go.WideShapes Go.Deep
theorem plan_fields : ∃ f0 f1 : Field, Try.prog.underlying 25 = some (.struct #[f0, f1]) ∧ f0.type = 22 ∧ f1.type = 23 ∧ f0.offset = 0 ∧ f1.offset = 1 :=
  ⟨_, _, Try.underlying25, rfl, rfl, rfl, rfl⟩
theorem plan_cells : Try.prog.cellsOf 25 = 2 := by kernel_rfl
theorem nums_cells : Try.prog.cellsOf 22 = 1 := by kernel_rfl
theorem texts_cells : Try.prog.cellsOf 23 = 1 := by kernel_rfl
/-- A plan to a walk. -/
def IsPlan (w : World) (v : Value) : Prop := ∃ A1 n1 c1 A2 n2 c2, v = .agg #[.slice A1 n1 c1, .slice A2 n2 c2] ∧ PlanIn w A1 n1 c1 A2 n2 c2
theorem open_plan {H : Type} {enc : TypeId × Value → H} {w : World} {base b0 : Nat} {r : Reach} {spare : Nat → Bool} {held : Bool} {v : Value} {d : DataW H} {p : List MemPlace}
    (hval : Value.okWide Try.prog w r b0 25 v) (h : DataW.Trod enc Try.prog w base spare held 25 v d p) : IsPlan w v := by
  obtain ⟨f0, f1, hst, t0, t1, o0, o1⟩ := plan_fields
  obtain ⟨cs, rfl, hsz⟩ := okWide_struct hst hval
  obtain ⟨fuel, hf⟩ := h
  obtain ⟨y0, y1, n, _, hlen, h0, h1⟩ := trod_struct2 hst hf
  rw [t0, o0, nums_cells] at h0
  rw [t1, o1, texts_cells] at h1
  rw [plan_cells] at hsz
  obtain ⟨l⟩ := cs
  match l, hsz with
  | [v0, v1], _ =>
    simp only [Value.cells, List.drop_zero, List.take_succ_cons, List.take_zero, List.drop_succ_cons] at h0 h1
    have hN : ∃ A1 n1 c1, v0 = .slice A1 n1 c1 ∧ n1 ≤ c1 ∧ c1 ≤ 9223372036854775807 ∧ (0 < n1 → ∃ b off, A1 = some ⟨b, off, none⟩ ∧ ∀ k, k < n1 → ∃ z : Int, w.cell? ⟨b, off + k, none⟩ = some (.int .i64 z) ∧ -9223372036854775808 ≤ z ∧ z ≤ 9223372036854775807) := by
      rcases open_ints Try.underlying22 Try.underlying3 (by kernel_rfl) h0 with ⟨hcs, _⟩ | ⟨x, l, c, zs, hcs, _, hl, hm, hz, _, hcell, hwz⟩
      · simp at hcs
        exact ⟨_, _, _, hcs, Nat.le_refl _, by omega, fun h => by omega⟩
      · simp at hcs
        unfold maxLen at hm
        have hlz : l ≤ zs.length := by rw [hz]; split <;> omega
        refine ⟨_, _, _, hcs, hl, by omega, fun h => ?_⟩
        have hc0 := hcell 0 (by omega)
        obtain ⟨b, off, spot⟩ := x
        have hspot : spot = none := by simpa [Addr.add] using World.cell?_spot hc0
        subst hspot
        refine ⟨b, off, rfl, fun k hk => ?_⟩
        have hc := hcell k (by omega)
        rw [add_plain] at hc
        exact ⟨_, hc, bounds_i64 (hwz _ (List.mem_of_getElem? (getD_at (by omega))))⟩
    have hT : ∃ A2 n2 c2, v1 = .slice A2 n2 c2 := by
      rcases open_strings Try.underlying23 Try.underlying9 text_cells h1 with ⟨hcs, _⟩ | ⟨x, l', c', ss, hcs, _⟩
      · simp at hcs
        exact ⟨_, _, _, hcs⟩
      · simp at hcs
        exact ⟨_, _, _, hcs⟩
    obtain ⟨A1, n1, c1, rfl, a1, a2, a3⟩ := hN
    obtain ⟨A2, n2, c2, rfl⟩ := hT
    obtain ⟨ss, hss⟩ := open_texts (enc := enc) (base := base) (spare := spare) (held := held) (d := y1.1) (p := y1.2) ⟨n, h1⟩
    refine ⟨A1, n1, c1, A2, n2, c2, rfl, a3, fun h => ?_, a1, a2, hss.2.2.2.1, hss.2.2.2.2.1⟩
    obtain ⟨b, off, e, hk⟩ := hss.at_ h
    exact ⟨b, off, e, fun k hk' => by obtain ⟨z, hz, hc⟩ := hk k hk'; exact ⟨z, hc, hz⟩⟩
end Go.Proofs.Ytcddlconcngjlaa
