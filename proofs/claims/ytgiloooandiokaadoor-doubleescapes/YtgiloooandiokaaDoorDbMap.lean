/- A map from bytes to texts of the call's own: its entries put, asked, gone through. -/
import Derived.Test.YtgiloooandiokaaDoorDbLaw
import Derived.Test.YtgiloooandiokaaDoorDbRef
import Derived.Maps.OwnSet
import Derived.Maps.RangeWalk
import Derived.Maps.StringElems
namespace Go.Proofs.YtgiloooandiokaaDoor
open Go.RowKit Go.Maps
set_option linter.unusedVariables false

theorem lawU : Keyed Tryd.prog 5 := int_keyed Tryd.underlying5
theorem zeroS (w : World) : (zeroValue 9).run Tryd.prog w = .ok (.string ⟨#[]⟩) w := by kernel_rfl
/-- The map in block B reads as D, with at most n entries. -/
def OwnM (W : World) (B n : Nat) (D : DataW Unit) : Prop := W.ownsMap Tryd.prog 5 (plainElem Tryd.prog 9) B n D
theorem ownM_new (w : World) : OwnM (w.alloc (.map #[] 0)) w.heap.size 0 (.map []) := World.ownsMap_made _ _ _ _
theorem ownM_put {W : World} {B n : Nat} {D : DataW Unit} (h : OwnM W B n D) (hn : n ≤ 1000) (k : Int) (hk : (Lit.int .u8 k).wf = true) (v : ByteArray) (hv : v.size ≤ 1000) :
    ∃ W', (Instr.mapUpdate 22 (.map (some B)) (.int .u8 k) (.string v)).run Tryd.prog W = .ok () W' ∧ OwnM W' B (n + 1) (D.put (.int .u8 k) (.lit (.string v.data.toList))) ∧ W.grownBy W' (some B) :=
  World.ownsMap.update h lawU Tryd.underlying22 (by unfold maxLen; omega) (keyOf_int_mk Tryd.underlying5 hk) (plainElem_string Tryd.underlying9 (by unfold maxLen; omega))
theorem ownM_look {W : World} {B n : Nat} {D : DataW Unit} (h : OwnM W B n D) (k : Int) (hk : (Lit.int .u8 k).wf = true) :
    ∃ v : ByteArray, (Instr.lookup 22 (.map (some B)) (.int .u8 k) true).run Tryd.prog W = .ok (.tuple #[.string v, .bool (has D (.int .u8 k))]) W ∧ D.atKey (.int .u8 k) (.lit (.string [])) = .lit (.string v.data.toList) := by
  obtain ⟨v, ps, hrun, hv⟩ := World.ownsMap.look_ok h lawU Tryd.underlying22 (zeroS W) (plainElem_string (H := Unit) Tryd.underlying9 (s := ⟨#[]⟩) (by decide)) (keyOf_int_mk Tryd.underlying5 hk)
  obtain ⟨s, rfl, hs, _⟩ := plainElem_string_inv Tryd.underlying9 hv
  exact ⟨s, hrun, (Prod.mk.inj hs).1⟩
/-- A loop over the map in block B, its iterator in block r. -/
def Rng (W : World) (B r n : Nat) (D : DataW Unit) (cnt : Nat) : Prop :=
  ∃ left : Lit → Bool, W.ranges Tryd.prog 5 (plainElem Tryd.prog 9) B r n D left cnt ∧ ∀ kl, left kl = true → has D kl = true
theorem grown_below {w w' : World} (h : Below w.heap.size w w') : w.grownBy w' none := ⟨h.os, h.tape, h.output, h.size, fun i hi _ => h.block i hi⟩
theorem Rng.below {W W' : World} {B r n cnt : Nat} {D : DataW Unit} (h : Rng W B r n D cnt) (hb : Below W.heap.size W W') : Rng W' B r n D cnt := by
  obtain ⟨left, h1, h2⟩ := h
  exact ⟨left, h1.kept (grown_below hb) (by simp) (by simp), h2⟩
theorem Rng.left {W : World} {B r n cnt : Nat} {D : DataW Unit} (h : Rng W B r n D cnt) : W.rangeLeft B r = cnt := by
  obtain ⟨left, h1, _⟩ := h
  exact h1.left_eq
section
variable {W : World} {ops : Array Oper} {rest : List Oper} {o : Oper} {a : Act} {Q : Exit → Act → World → Prop}
theorem range_map (hg : o.guard = none) (m : Operand) (hop : o.op = Op.range 22 m) (B n : Nat) (D : DataW Unit) (hm : a.eval m = .map (some B)) (hown : Hid (OwnM W B n D))
    (hK : ∀ w', Hid (Rng w' B W.heap.size n D (Maps.size D) ∧ Below W.heap.size W w') → wpList Tryd.prog ops Q rest (a.put o.dst (.pointer (some ⟨W.heap.size, 0, none⟩))) w') : wpList Tryd.prog ops Q (o :: rest) a W :=
  wpList_range_own W hg m 22 hop 5 9 lawU Tryd.underlying22 _ B n D hm hown.out (fun w' h1 h2 _ => hK w' ⟨⟨_, h1, fun _ h => h⟩, ⟨h2.os, h2.tape, h2.output, h2.size, fun i hi => h2.block i hi (by simp)⟩⟩)
theorem next_map (hg : o.guard = none) (it : Operand) (hop : o.op = Op.next it false) (B r n : Nat) (D : DataW Unit) (cnt : Nat) (hit : a.eval it = .pointer (some ⟨r, 0, none⟩)) (h : Hid (Rng W B r n D cnt))
    (hDone : wpList Tryd.prog ops Q rest (a.put o.dst (.tuple #[.bool false])) W)
    (hMore : ∀ (x : Int) (c : ByteArray) (w' : World), Hid ((Lit.int .u8 x).wf = true ∧ has D (.int .u8 x) = true ∧ D.atKey (.int .u8 x) (.lit (.string [])) = .lit (.string c.data.toList) ∧ (∃ cnt', Rng w' B r n D cnt' ∧ cnt' < cnt) ∧ W.grownBy w' (some r)) →
      (Instr.entry (.pointer (some ⟨r, 0, none⟩))).run Tryd.prog w' = .ok (.tuple #[.int .u8 x, .string c]) w' → wpList Tryd.prog ops Q rest (a.put o.dst (.tuple #[.bool true, .int .u8 x, .string c])) w') :
    wpList Tryd.prog ops Q (o :: rest) a W := by
  obtain ⟨left, h1, h2⟩ := h.out
  refine wpList_next_ranges_is W hg it hop 5 9 .u8 lawU Tryd.underlying5 Tryd.underlying9 B r n D left cnt hit h1 (fun _ _ => hDone) ?_
  intro x c w' cnt' hwx _ hl hat hrg hlt hg' _ hen
  refine hMore x c w' ⟨hwx, h2 _ hl, hat _, ⟨cnt', ⟨_, hrg, fun kl hk => h2 kl ?_⟩, hlt⟩, hg'⟩ hen
  simp only [Bool.and_eq_true] at hk
  exact hk.1
end
/-! ### The escapes by a letter, as a map -/
def escM : List (Int × List UInt8) := [(48, [0]), (97, [7]), (98, [8]), (116, [9]), (110, [10]), (118, [11]), (102, [12]), (114, [13]), (101, [27]), (34, [34]), (47, [47]), (92, [92]), (32, [32]), (78, [194, 133]), (95, [194, 160]), (76, [226, 128, 168]), (80, [226, 128, 169])]
def escD : DataW Unit := escM.foldl (fun D x => D.put (.int .u8 x.1) (.lit (.string x.2))) (.map [])
def numOf : DataW Unit → Option (List Int)
  | .lit (.string l) => some (l.map fun c => (c.toNat : Int))
  | _ => none
theorem esc_all : ∀ x : Fin 256, has escD (.int .u8 (x.val : Int)) = decide (0 ≤ esc1 (x.val : Int)) ∧ numOf (escD.atKey (.int .u8 (x.val : Int)) (.lit (.string []))) = some (if 0 ≤ esc1 (x.val : Int) then utfF (esc1 (x.val : Int)) else []) ∧
    takeD [34, 92, (x.val : Int), 34] = (if 0 ≤ esc1 (x.val : Int) then some (utfF (esc1 (x.val : Int)), 4) else none) ∧
    (0 ≤ esc1 (x.val : Int) → takeD [34, 120, 92, (x.val : Int), 121, 34] = some (120 :: (utfF (esc1 (x.val : Int)) ++ [121]), 6)) := by decide +kernel
theorem esc_at (x : Int) (h0 : 0 ≤ x) (h1 : x < 256) : has escD (.int .u8 x) = decide (0 ≤ esc1 x) ∧ numOf (escD.atKey (.int .u8 x) (.lit (.string []))) = some (if 0 ≤ esc1 x then utfF (esc1 x) else []) ∧
    takeD [34, 92, x, 34] = (if 0 ≤ esc1 x then some (utfF (esc1 x), 4) else none) ∧ (0 ≤ esc1 x → takeD [34, 120, 92, x, 121, 34] = some (120 :: (utfF (esc1 x) ++ [121]), 6)) := by
  have h := esc_all ⟨x.toNat, by omega⟩
  have e : ((x.toNat : Nat) : Int) = x := by omega
  simpa only [e] using h
end Go.Proofs.YtgiloooandiokaaDoor
