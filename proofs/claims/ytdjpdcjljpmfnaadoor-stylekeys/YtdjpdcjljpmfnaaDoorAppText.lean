/- A text put behind bytes of our own: 'append(out, s...)'. -/
import Derived.Test.YtdjpdcjljpmfnaaDoorBase
import Derived.Lib.AppendStr
namespace Go.Proofs.YtdjpdcjljpmfnaaDoor
open Go.RowKit
set_option linter.unusedVariables false

theorem wpList_append_str {P : Program} {w : World} {ops : Array Oper} {rest : List Oper} {o : Oper} {a : Act} {Q : Exit → Act → World → Prop} (hgd : o.guard = none) (s x : Operand) (t u : TypeId)
    (ho : o.op = .call { callee := .builtin .append, args := #[s, x], argTypes := #[t, u] }) (v1 v2 v' : Value) (w' : World) (hs : a.eval s = v1) (hx : a.eval x = v2)
    (hrun : (Builtin.append_ #[t, u] o.type #[v1, v2]).run P w = .ok v' w') (h : wpList P ops Q rest (a.put o.dst v') w') : wpList P ops Q (o :: rest) a w :=
  wpList_plain hgd fun _ hK => by
    unfold Oper.wp execOp
    simp only [ho, resolve, invoke, builtin, Sem.run_bind, Sem.run_pure, Result.andThen_ok, List.map_toArray, List.map_cons, List.map_nil, hs, hx, hrun]
    exact hK _ _ h
theorem strCells_byt (s : ByteArray) : Lib.strCells s = (byt s).map (Value.int .u8) := by
  unfold Lib.strCells byt; rw [List.map_map]; rfl
theorem run_append_text (w : World) (base : Nat) (v : Value) (n : Nat) (zs : List Int) (hown : w.ownsRow base 5 1 v n (zs.map (Value.int .u8))) (hbase : base ≤ w.heap.size) (s : ByteArray) (hsz : n + s.size ≤ 1000000000) :
    ∃ v' w', (Builtin.append_ #[37, 9] 37 #[v, .string s]).run Tryd.prog w = .ok v' w' ∧ w'.ownsRow base 5 1 v' (n + s.size) ((zs ++ byt s).map (Value.int .u8)) ∧ w.grownBy w' v.ownBlock := by
  obtain ⟨i, hi, hz, h2, h3⟩ := info_parts byte_info
  obtain ⟨v', w', hrun, ho, hg, _⟩ := Lib.run_append_own_string (P := Tryd.prog) (w := w) base 37 9 37 5 i Tryd.underlying37 Tryd.underlying9 hi hz h2 h3 v n _ hown s (by unfold maxLen; omega) (by omega) hbase
  refine ⟨v', w', hrun, ?_, hg⟩
  rw [List.map_append, ← strCells_byt]; exact ho
/-- Behind a row of our own that is there: where the answer's row lies, and what stays. -/
theorem text_more (w W : World) (g cap p : Nat) (out : List Int) (hown : W.ownsRow w.heap.size 5 1 (.slice (some ⟨g, 0, none⟩) p cap) p (out.map (Value.int .u8))) (hb : Below w.heap.size w W) (s : ByteArray) (m : Nat) (hm : s.size = m) (hsz : p + m ≤ 1000000000) :
    ∃ g' cap' W', (Builtin.append_ #[37, 9] 37 #[.slice (some ⟨g, 0, none⟩) p cap, .string s]).run Tryd.prog W = .ok (.slice (some ⟨g', 0, none⟩) (p + m) cap') W' ∧
      p + m ≤ cap' ∧ cap' ≤ 9223372036854775807 ∧ W'.ownsRow w.heap.size 5 1 (.slice (some ⟨g', 0, none⟩) (p + m) cap') (p + m) ((out ++ byt s).map (Value.int .u8)) ∧ Below w.heap.size w W' ∧
      (g' = g ∨ g' = W.heap.size) ∧ W.heap.size ≤ W'.heap.size ∧ ∀ G ys, G ≠ g → RdB W (some ⟨G, 0, none⟩) ys → RdB W' (some ⟨G, 0, none⟩) ys := by
  subst hm
  obtain ⟨v', W', hrun, ho, hg⟩ := run_append_text W w.heap.size _ p out hown hb.size s hsz
  have hbel := hb.grown hg hb.size (own_base hown)
  have hwhere : ∃ g', v'.ownBlock = some g' ∧ (g' = g ∨ g' = W.heap.size) := by
    obtain ⟨i, hi, hz, h2, h3⟩ := info_parts byte_info
    rcases hown.2 with ⟨h0, _⟩ | ⟨g1, cap1, cur, e, hbg, hgc, hnc, hcm, hcs, htake⟩
    · cases h0
    · injection e with e1 e2 e3
      injection e1 with e1
      injection e1 with e1
      subst e1 e3
      by_cases hroom : p + s.size ≤ cap
      · have hr := Lib.run_append_room_string (P := Tryd.prog) W 37 9 37 5 i Tryd.underlying37 Tryd.underlying9 hi h2 g p cap cur hgc s hroom (by omega)
        rw [hrun] at hr
        injection hr with hr1 hr2
        subst hr1
        exact ⟨g, rfl, .inl rfl⟩
      · have holds := hown.cells (g := g) rfl
        have hxl := hown.1
        have hr := Lib.run_append_grow_string (P := Tryd.prog) W 37 9 37 5 i (.int .u8 0) Tryd.underlying37 Tryd.underlying9 hi hz ⟨g, 0, none⟩ p cap (out.map (Value.int .u8)) (by rw [h2]; simpa using hxl) holds s (by omega) (by omega) (by rw [h3]; exact growslice_fits (by omega) (by omega))
        rw [hrun] at hr
        injection hr with hr1 hr2
        subst hr1
        exact ⟨W.heap.size, rfl, .inr rfl⟩
  obtain ⟨g', hg', hw⟩ := hwhere
  rcases ho.2 with ⟨h0, _⟩ | ⟨g1, cap1, cur, rfl, hbg, hgc, hnc, hcm, hcs, htake⟩
  · subst h0; cases hg'
  · have : g1 = g' := by simpa [Value.ownBlock] using hg'
    subst this
    refine ⟨g1, cap1, W', hrun, hnc, by unfold maxLen at hcm; omega, ho, hbel, hw, hg.size, fun G ys hne hr => ?_⟩
    intro k z hz
    obtain ⟨b, off, e, hc⟩ := hr k z hz
    injection e with e
    injection e with e1 e2
    subst e1 e2
    exact ⟨G, 0, rfl, hg.cell hc (by simp [Value.ownBlock]; omega)⟩
end Go.Proofs.YtdjpdcjljpmfnaaDoor
