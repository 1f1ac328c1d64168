/- What the rows list of 'shorts' is the table in memory. -/
import Derived.Test.YtdjpdcjljpmfnaaDoorRows
import Derived.Test.YtdjpdcjljpmfnaaDoorDbEsc
import Derived.OpenShut
import Derived.ChangeSame
import Derived.MakeChecks
import Derived.Lib.LaidU8
namespace Go.Proofs.YtdjpdcjljpmfnaaDoor
open Go Go.ChangeShapes
set_option linter.unusedVariables false

theorem pairs_all : ∀ (L : List (Int × Int)) (cs : List Value), cs.length = 2 * L.length → (∀ i x, L[i]? = some x → (cs.drop (i * 2)).take 2 = [.int .u8 x.1, .int .i32 x.2]) → cs = L.flatMap fun x => [Value.int .u8 x.1, .int .i32 x.2] := by
  intro L
  induction L with
  | nil => intro cs hl _; exact List.eq_nil_of_length_eq_zero (by simpa using hl)
  | cons x L ih =>
    intro cs hl h
    have h0 := h 0 x rfl
    simp only [Nat.zero_mul, List.drop_zero] at h0
    have hr := ih (cs.drop 2) (by rw [List.length_drop, hl]; simp; omega) (fun i y hy => by
      have := h (i + 1) y (by simpa using hy)
      rw [List.drop_drop]
      rw [show 2 + i * 2 = (i + 1) * 2 by omega]
      exact this)
    rw [List.flatMap_cons, ← hr, ← h0, List.take_append_drop]
section
variable {H : Type} {enc : TypeId × Value → H} {w : World} {base fuel : Nat} {sp : Nat → Bool} {held : Bool}
theorem pair_of_trod {cs : List Value} {a b : Int} {q : List MemPlace} (h : DataW.trod enc Tryd.prog w base sp held fuel 54 cs = some (.agg [.lit (.int .u8 a), .lit (.int .i32 b)], q)) : cs = [.int .u8 a, .int .i32 b] := by
  obtain ⟨y0, y1, n, hx, hl, h0, h1⟩ := trod_struct2 Tryd.underlying54 h
  have c5 : Tryd.prog.cellsOf 5 = 1 := by kernel_rfl
  have c21 : Tryd.prog.cellsOf 21 = 1 := by kernel_rfl
  have cs2 : Tryd.prog.cellsOf 54 = 2 := by kernel_rfl
  have hx0 := (Prod.mk.inj hx).1
  injection hx0 with hx0
  simp only [List.cons.injEq, and_true] at hx0
  simp only [c5, c21] at h0 h1
  obtain ⟨m0, e0, f0, _⟩ := DataW.trod_int Tryd.underlying5 h0
  obtain ⟨m1, e1, f1, _⟩ := DataW.trod_int Tryd.underlying21 h1
  rw [f0, f1] at hx0
  simp only [DataW.lit.injEq, Lit.int.injEq, true_and] at hx0
  obtain ⟨rfl, rfl⟩ := hx0
  rw [cs2] at hl
  match cs, hl with
  | [x, y], _ =>
    simp only [List.take, List.drop, List.cons.injEq, and_true] at e0 e1
    rw [e0, e1]
end
/-- One of the listed variables. -/
theorem laidVars_mem {P : Program} {w : World} {n : String} {d : DataW Unit} : ∀ (L : List (String × DataW Unit)) (ps : List MemPlace), DataW.LaidVars P w L ps → (n, d) ∈ L →
    ∃ g t cs fuel p, P.globalNamed n = some g ∧ (P.globals[g]?).map (·.type) = some t ∧ w.var? P n = some cs ∧ DataW.trod (fun _ => ()) P w 0 (fun _ => true) false fuel t cs.toList = some (d, p) := by
  intro L
  induction L with
  | nil => intro ps _ h; cases h
  | cons x L ih =>
    intro ps h hm
    obtain ⟨g, t, cs, fuel, p, q, h1, h2, h3, h4, h5, _⟩ := h
    rcases List.mem_cons.1 hm with h | h
    · subst h; exact ⟨g, t, cs, fuel, p, h1, h2, h3, h4⟩
    · exact ih q h5 h
theorem shorts_in {W : World} {L : List (String × DataW Unit)} (h : laidMetH Tryd.prog L W) (hL : (L.all fun x => x.2.handleName?.isNone) = true) (hm : ("scholium/double.shorts", Rows.laid_scholium_double_shorts) ∈ L) : Shorts W := by
  rw [MakeChecks.laidMetH_plain _ _ _ hL] at h
  obtain ⟨ps, hps, _⟩ := h
  obtain ⟨g, t, cs, fuel, p, hg, ht, hv, hd⟩ := laidVars_mem L ps hps hm
  obtain rfl := Option.some.inj ((show Tryd.prog.globalNamed "scholium/double.shorts" = some 0 by kernel_rfl).symm.trans hg)
  obtain rfl := Option.some.inj ((show (Tryd.prog.globals[0]?).map (·.type) = some 55 by kernel_rfl).symm.trans ht)
  have hlen : cs.toList.length = 2 * shL.length := by
    obtain ⟨xs, m, _, ex, hl, _, hel⟩ := DataW.trod_array Tryd.underlying55 hd
    have hc : Tryd.prog.cellsOf 55 = 30 := by kernel_rfl
    rw [hl, hc]; rfl
  have hcs : cs.toList = shL.flatMap fun x => [Value.int .u8 x.1, .int .i32 x.2] := by
    refine pairs_all shL _ hlen (fun i x hx => ?_)
    have hi : i < 15 := (List.getElem?_eq_some_iff.1 hx).1
    have hd2 : DataW.trod (fun _ => ()) Tryd.prog W 0 (fun _ => true) false fuel 55 cs.toList = some (.agg (shL.map fun x => .agg [.lit (.int .u8 x.1), .lit (.int .i32 x.2)]), p) := hd
    obtain ⟨fuel', d, q, hdi, he⟩ := Lib.array_elem Tryd.underlying55 hd2 i hi
    rw [List.getElem?_map, hx] at hdi
    simp only [Option.map_some, Option.some.injEq] at hdi
    subst hdi
    have hc : Tryd.prog.cellsOf 54 = 2 := by kernel_rfl
    rw [hc] at he
    exact pair_of_trod he
  have hcc : cs = shC := by
    apply Array.toList_inj.1
    rw [hcs]
    rfl
  unfold World.var? at hv
  rw [hg] at hv
  simp only [Option.bind_some] at hv
  split at hv
  · rename_i c t2 fr hh
    injection hv with hv
    rw [hv, hcc] at hh
    exact ⟨_, _, hh⟩
  · cases hv
/-- Where it is the only one that is listed. -/
theorem shorts_laid {W : World} (h : laidMetH Tryd.prog [("scholium/double.shorts", Rows.laid_scholium_double_shorts)] W) : Shorts W := shorts_in h (by kernel_rfl) (List.mem_singleton.2 rfl)
end Go.Proofs.YtdjpdcjljpmfnaaDoor
