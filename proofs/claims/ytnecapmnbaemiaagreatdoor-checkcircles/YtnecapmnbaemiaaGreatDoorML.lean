/- A map from texts to errors of the call's own: its entries put, gone through. -/
import Derived.Test.YtnecapmnbaemiaaGreatDoorMA
import Derived.Maps.OwnSet
import Derived.Maps.RangeWalk
import Derived.StringKeys
set_option linter.unusedSimpArgs false
set_option linter.unusedVariables false
namespace Go.Proofs.YtnecapmnbaemiaaGreatDoor
open Go.RowKit Go.Maps
set_option linter.unusedVariables false
set_option maxRecDepth 100000
theorem lawSE : Keyed Tryz.prog 9 := string_keyed Tryz.underlying9
/-- The map in block B reads as D, with at most n entries. -/
def OwnSE (W : World) (B n : Nat) (D : DataW Unit) : Prop := W.ownsMap Tryz.prog 9 (plainElem Tryz.prog 23) B n D
theorem ownSE_new (w : World) : OwnSE (w.alloc (.map #[] 0)) w.heap.size 0 (.map []) := World.ownsMap_made _ _ _ _
theorem ownSE_put {W : World} {B n : Nat} {D : DataW Unit} (h : OwnSE W B n D) (hn : n ≤ 1000) (s : ByteArray) (hs : s.size ≤ 1000) (c : Int) (hc : (Lit.int .i64 c).wf = true) :
    ∃ W', (Instr.mapUpdate 24 (.map (some B)) (.string s) (.int .i64 c)).run Tryz.prog W = .ok () W' ∧ OwnSE W' B (n + 1) (D.put (.string s.data.toList) (.lit (.int .i64 c))) ∧ W.grownBy W' (some B) :=
  World.ownsMap.update h lawSE Tryz.underlying24 (by unfold maxLen; omega) (WideMaps.keyOf_string_mk Tryz.underlying9 (by unfold maxLen; omega)) (plainElem_int Tryz.underlying23 hc)
theorem isKeyE_of (s : ByteArray) (hs : s.size ≤ 1000) : WideAt.IsKeyLit (.string s.data.toList) := lawSE.key (WideMaps.keyOf_string_mk Tryz.underlying9 (s := s) (by unfold maxLen; omega))
/-- Each entry is one of these. -/
def AllInE (T : List (List UInt8 × Int)) (D : DataW Unit) : Prop := ∀ (l : List UInt8) (c : Int), has D (.string l) = true → (∀ zd, D.atKey (.string l) zd = .lit (.int .i64 c)) → (l, c) ∈ T
theorem allInE_nil (T : List (List UInt8 × Int)) : AllInE T (.map []) := fun l c h => by cases h
theorem allInE_put {T : List (List UInt8 × Int)} {D : DataW Unit} (hm : IsMap D) (h : AllInE T D) (l0 : List UInt8) (c0 : Int) (hk : WideAt.IsKeyLit (.string l0)) (hin : (l0, c0) ∈ T) : AllInE T (D.put (.string l0) (.lit (.int .i64 c0))) := by
  intro l c hh ha
  by_cases e : l = l0
  · subst e
    have := ha (.lit (.int .i64 0))
    rw [atKey_put_same hm hk] at this
    injection this with this
    injection this with _ this
    rw [← this]; exact hin
  · have hne : (Lit.string l) ≠ Lit.string l0 := fun he => by injection he with he; exact e he
    rw [has_put_other hne] at hh
    exact h l c hh (fun zd => by rw [← ha zd, atKey_put_other hne])
/-- A loop over the map in block B, its iterator in block r. -/
def RngSE (W : World) (B r n : Nat) (D : DataW Unit) (cnt : Nat) : Prop :=
  ∃ left : Lit → Bool, W.ranges Tryz.prog 9 (plainElem Tryz.prog 23) B r n D left cnt ∧ ∀ kl, left kl = true → has D kl = true
theorem grown_belowSE {w w' : World} (h : Below w.heap.size w w') : w.grownBy w' none := ⟨h.os, h.tape, h.output, h.size, fun i hi _ => h.block i hi⟩
theorem RngSE.below {W W' : World} {B r n cnt : Nat} {D : DataW Unit} (h : RngSE W B r n D cnt) (hb : Below W.heap.size W W') : RngSE W' B r n D cnt := by
  obtain ⟨left, h1, h2⟩ := h
  exact ⟨left, h1.kept (grown_belowSE hb) (by simp) (by simp), h2⟩
theorem RngSE.left {W : World} {B r n cnt : Nat} {D : DataW Unit} (h : RngSE W B r n D cnt) : W.rangeLeft B r = cnt := by
  obtain ⟨left, h1, _⟩ := h
  exact h1.left_eq
section
variable {W : World} {ops : Array Oper} {rest : List Oper} {o : Oper} {a : Act} {Q : Exit → Act → World → Prop}
theorem next_SE (hg : o.guard = none) (it : Operand) (hop : o.op = Op.next it false) (B r n : Nat) (D : DataW Unit) (cnt : Nat) (hit : a.eval it = .pointer (some ⟨r, 0, none⟩)) (h : Hid (RngSE W B r n D cnt))
    (hDone : wpList Tryz.prog ops Q rest (a.put o.dst (.tuple #[.bool false])) W)
    (hMore : ∀ (x : ByteArray) (c : Int) (w' : World), Hid (has D (.string x.data.toList) = true ∧ (∀ zd, D.atKey (.string x.data.toList) zd = .lit (.int .i64 c)) ∧ (∃ cnt', RngSE w' B r n D cnt' ∧ cnt' < cnt) ∧ W.grownBy w' (some r)) →
      (Instr.entry (.pointer (some ⟨r, 0, none⟩))).run Tryz.prog w' = .ok (.tuple #[.string x, .int .i64 c]) w' → wpList Tryz.prog ops Q rest (a.put o.dst (.tuple #[.bool true, .string x, .int .i64 c])) w') :
    wpList Tryz.prog ops Q (o :: rest) a W := by
  obtain ⟨left, h1, h2⟩ := h.out
  refine wpList_next_ranges W hg it hop 9 lawSE (plainElem Tryz.prog 23) Value.string (Value.int .i64) (fun key kl hkey => by obtain ⟨x, rfl, _⟩ := WideMaps.string_of_keyOf Tryz.underlying9 hkey; exact ⟨x, rfl⟩) (fun v y hv => by obtain ⟨c, rfl, _⟩ := plainElem_int_inv Tryz.underlying23 hv; exact ⟨c, rfl⟩)
    B r n D left cnt hit h1 (fun _ _ => hDone) ?_
  intro x c kl y w' cnt' hkey hlk hv hat hrg hlt hg' _ hen
  obtain ⟨x', ex, rfl, _⟩ := WideMaps.string_of_keyOf Tryz.underlying9 hkey
  cases ex
  obtain ⟨c', ec, rfl, _⟩ := plainElem_int_inv Tryz.underlying23 hv
  cases ec
  refine hMore x c w' ⟨h2 _ hlk, hat, ⟨cnt', ⟨_, hrg, fun kl hk => h2 kl ?_⟩, hlt⟩, hg'⟩ hen
  simp only [Bool.and_eq_true] at hk
  exact hk.1
theorem run_rangeSE {W : World} {B n : Nat} {D : DataW Unit} (h : OwnSE W B n D) : ∃ W', (Instr.range 24 (.map (some B))).run Tryz.prog W = .ok (.pointer (some ⟨W.heap.size, 0, none⟩)) W' ∧ RngSE W' B W.heap.size n D (Maps.size D) ∧ Below W.heap.size W W' := by
  obtain ⟨w', hrun, r1, r2, r3⟩ := World.ownsMap.range h lawSE Tryz.underlying24
  exact ⟨w', hrun, ⟨_, r1, fun _ h => h⟩, ⟨r2.os, r2.tape, r2.output, r2.size, fun i hi => r2.block i hi (by simp)⟩⟩
end
end Go.Proofs.YtnecapmnbaemiaaGreatDoor
