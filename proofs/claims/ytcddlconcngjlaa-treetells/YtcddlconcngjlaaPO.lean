/- Maps of the call's own, told by functions: from texts to numbers, from numbers to numbers. · Chapter 14: check.Anchors, check.Targets, isAhead of any list. Written by tools/tree/ckanc.py. · Chapter 14: the document's own: a node's parent (scholiumref08.Parent). -/
import Derived.Test.YtcddlconcngjlaaPA
import Derived.Maps.OwnSet
import Derived.Maps.OwnOps
import Derived.StringKeys
import Derived.Test.YtcddlconcngjlaaPN
import Derived.Test.YtcddlconcngjlaaPJ
set_option linter.unusedSimpArgs false
set_option linter.unusedVariables false
namespace Go.Proofs.Ytcddlconcngjlaa
open Go.RowKit Go.Maps
set_option linter.unusedVariables false
set_option linter.unusedSimpArgs false
set_option maxRecDepth 100000
def litS (s : ByteArray) : Lit := .string s.data.toList
/-- What a map answers at a key: f's number, or none. -/
def Ans (D : DataW Unit) (k : Lit) (o : Option Int) : Prop := has D k = o.isSome ∧ ∀ c, o = some c → ∀ zd, D.atKey k zd = .lit (.int .i64 c)
/-- The map in block B, with at most n entries, answers as f. -/
def MapS (W : World) (B n : Nat) (f : ByteArray → Option Int) : Prop :=
  ∃ D : DataW Unit, W.ownsMap Try.prog 9 (plainElem Try.prog 3) B n D ∧ ∀ s : ByteArray, Ans D (litS s) (f s)
def MapI (W : World) (B n : Nat) (f : Int → Option Int) : Prop :=
  ∃ D : DataW Unit, W.ownsMap Try.prog 3 (plainElem Try.prog 3) B n D ∧ ∀ k : Int, Ans D (.int .i64 k) (f k)
theorem grown_b {w w' : World} (h : Below w.heap.size w w') : w.grownBy w' none := ⟨h.os, h.tape, h.output, h.size, fun i hi _ => h.block i hi⟩
theorem MapS.below {W W' : World} {B n : Nat} {f : ByteArray → Option Int} (h : MapS W B n f) (hb : Below W.heap.size W W') : MapS W' B n f := by
  obtain ⟨D, h1, h2⟩ := h
  exact ⟨D, h1.kept (grown_b hb) (by simp), h2⟩
theorem MapI.below {W W' : World} {B n : Nat} {f : Int → Option Int} (h : MapI W B n f) (hb : Below W.heap.size W W') : MapI W' B n f := by
  obtain ⟨D, h1, h2⟩ := h
  exact ⟨D, h1.kept (grown_b hb) (by simp), h2⟩
open Go.RowKit
theorem take_snoc {l : List Gn} {t : Nat} {x : Gn} (hx : l[t]? = some x) : l.take (t + 1) = l.take t ++ [x] := by
  rw [List.take_add_one, hx]; rfl
/-- What it answers: none has this Kid, or one that has, and where. -/
def RPar (l : List Gn) (k : Int) (p q : Int) : Prop :=
  (p = -1 ∧ q = -1 ∧ ∀ x ∈ l, k ∉ x.kids) ∨ ∃ (i j : Nat) (x : Gn), p = (i : Int) ∧ q = (j : Int) ∧ l[i]? = some x ∧ x.kids[j]? = some k
theorem not_mem_take_succ {α : Type} {l : List α} {t : Nat} {x y : α} (hx : l[t]? = some x) (h : y ∉ l.take t) (hne : ¬ x = y) : y ∉ l.take (t + 1) := by
  have ht := (List.getElem?_eq_some_iff.1 hx).1
  rw [List.take_add_one, hx]
  intro hm
  rcases List.mem_append.1 hm with hm | hm
  · exact h hm
  · simp at hm; exact hne hm.symm
set_option maxHeartbeats 8000000 in
theorem rparent_at {W : World} {A : Option Addr} {n cap : Nat} {l : List Gn} (hL : GL W A n cap l) (hS : Small l) (hn : n ≤ 1000000) (k : Int) :
    Calls Try.prog 19 #[.slice A n cap, .int .i64 k] W fun e w' => ∃ p q, e = .returned (.tuple #[.int .i64 p, .int .i64 q]) ∧ Hid (RPar l k p q) ∧ W = w' := by
  have hle := hL.le
  have hmx := hL.max
  have HL := Lib.hid hL
  have HS := Lib.hid hS
  clear hL hS
  go_enter Try.func19, Try.ntmps19
  go_wp2_with fail
  go_loopw [10] (fun u V => ∃ t : Nat, t ≤ n ∧ u = .int .i64 (t : Int) ∧ Hid (V = W ∧ ∀ x ∈ l.take t, k ∉ x.kids)) (fun u _ => n - (intOf u).toNat)
  case atStart => exact ⟨0, Nat.zero_le _, rfl, rfl, fun x hx => by rw [List.take_zero] at hx; cases hx⟩
  case round =>
    obtain ⟨t, ht, rfl, HR⟩ := hrel
    obtain ⟨V, hV⟩ : ∃ z, z = wr := ⟨_, rfl⟩
    subst hV
    obtain rfl : V = W := HR.out.1
    by_cases hlt : t < n
    · have dt : (t : Int) < (n : Int) := by omega
      obtain ⟨x, hx⟩ : ∃ z, l[t]? = some z := ⟨l[t]'(by rw [HL.out.len]; exact hlt), List.getElem?_eq_getElem _⟩
      obtain ⟨g1, o1, rfl, K1, c1, a1, a2, a3, a4, a5⟩ := HL.out.at_ t x hx
      have x9 := a5 9 _ rfl
      obtain ⟨kl, hkl⟩ : ∃ z, x.kids.length = z := ⟨_, rfl⟩
      have hkl2 := (HS.out x (List.mem_of_getElem? hx)).1
      rw [hkl] at x9 a1 hkl2
      have HX := Lib.hid (And.intro hx (And.intro hkl a4))
      clear a4 a5 hx hkl
      go_wp2_with fail
      go_loopw [19] (fun u V' => ∃ j : Nat, j ≤ kl ∧ u = .int .i64 (j : Int) ∧ Hid (V' = V ∧ k ∉ x.kids.take j)) (fun u _ => kl - (intOf u).toNat)
      case atStart => exact ⟨0, Nat.zero_le _, rfl, rfl, by rw [List.take_zero]; exact List.not_mem_nil⟩
      case round =>
        obtain ⟨j, hj, rfl, HU⟩ := hrel
        obtain ⟨U, hU⟩ : ∃ z, z = wr := ⟨_, rfl⟩
        subst hU
        obtain rfl : U = V := HU.out.1
        by_cases hlj : j < kl
        · have dj : (j : Int) < (kl : Int) := by omega
          obtain ⟨z, hz⟩ : ∃ z, x.kids[j]? = some z := ⟨x.kids[j]'(by rw [HX.out.2.1]; exact hlj), List.getElem?_eq_getElem _⟩
          obtain ⟨kg, ko, rfl, hkc⟩ := HX.out.2.2.addr (by rw [ki_len, HX.out.2.1]; omega)
          have yk := hkc j _ (ki_at hz)
          have HZ := Lib.hid hz
          clear hkc hz
          by_cases hzk : z = k
          · subst hzk
            go_wp2_with fail
            go_ret2
            exact ⟨_, _, rfl, .inr ⟨t, j, x, rfl, rfl, HX.out.1, HZ.out⟩, rfl⟩
          · have hzk' : (z == k) = false := beq_eq_false_iff_ne.2 hzk
            go_wp2_with fail
            go_roundw
            case rel => exact ⟨j + 1, by omega, by go_num, by trivial, not_mem_take_succ HZ.out HU.out.2 hzk⟩
            case measure => simp [intOf]; omega
        · obtain rfl : j = kl := by omega
          go_wp2_with fail
          go_roundw
          case rel =>
            refine ⟨t + 1, by omega, by go_num, by trivial, fun y hy => ?_⟩
            rw [take_snoc HX.out.1] at hy
            rcases List.mem_append.1 hy with hy | hy
            · exact HR.out.2 y hy
            · simp at hy; subst hy
              have := HU.out.2
              rwa [List.take_of_length_le (by rw [HX.out.2.1]; exact Nat.le_refl _)] at this
          case measure => simp [intOf]; omega
    · obtain rfl : t = n := by omega
      go_wp2_with fail
      go_ret2
      refine ⟨_, _, rfl, .inl ⟨rfl, rfl, ?_⟩, rfl⟩
      have := HR.out.2
      rwa [List.take_of_length_le (by rw [HL.out.len]; exact Nat.le_refl _)] at this
end Go.Proofs.Ytcddlconcngjlaa
