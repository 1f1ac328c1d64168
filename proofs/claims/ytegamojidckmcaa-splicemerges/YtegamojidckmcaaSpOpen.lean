/- A slice of splices that came in: what its reading tells of memory. -/
import Derived.Test.YtegamojidckmcaaSpRaw
import Derived.Deep.Slices
import Derived.Deep.Fields
import Derived.ChangeSame
namespace Go.Proofs.Ytegamojidckmcaa
open Go.RowKit Go.ChangeShapes Go.WideShapes Go.Deep
set_option linter.unusedVariables false

theorem spsC_get : ∀ (l : List Sp) (k : Nat) (v : Value), (spsC l)[k]? = some v → ∃ i x, l[i]? = some x ∧ ((k = i * 3 ∧ v = .int .i64 x.f) ∨ (k = i * 3 + 1 ∧ v = .int .i64 x.t) ∨ (k = i * 3 + 2 ∧ v = .string x.s))
  | [], k, v, h => by simp [spsC] at h
  | x :: r, 0, v, h => ⟨0, x, rfl, .inl ⟨rfl, by simpa [spsC, spC] using h.symm⟩⟩
  | x :: r, 1, v, h => ⟨0, x, rfl, .inr (.inl ⟨rfl, by simpa [spsC, spC] using h.symm⟩)⟩
  | x :: r, 2, v, h => ⟨0, x, rfl, .inr (.inr ⟨rfl, by simpa [spsC, spC] using h.symm⟩)⟩
  | x :: r, k + 3, v, h => by
    rw [spsC_cons, List.getElem?_append_right (by simp [spC])] at h
    obtain ⟨i, y, hy, hc⟩ := spsC_get r k v (by simpa [spC] using h)
    refine ⟨i + 1, y, by simpa using hy, ?_⟩
    rcases hc with ⟨rfl, e⟩ | ⟨rfl, e⟩ | ⟨rfl, e⟩
    · exact .inl ⟨by omega, e⟩
    · exact .inr (.inl ⟨by omega, e⟩)
    · exact .inr (.inr ⟨by omega, e⟩)

theorem splice_fields : ∃ f0 f1 f2 : Field, Try.prog.underlying 28 = some (.struct #[f0, f1, f2]) ∧ f0.type = 3 ∧ f1.type = 3 ∧ f2.type = 9 ∧ oneCellFields Try.prog #[f0, f1, f2] = true :=
  ⟨_, _, _, Try.underlying28, rfl, rfl, rfl, by kernel_rfl⟩
theorem splice_cells : Try.prog.cellsOf 28 = 3 := by kernel_rfl
/-- What a slice of splices is to a walk. -/
def IsSps (w : World) (a : Option Addr) (len cap : Nat) (l : List Sp) : Prop := l.length = len ∧ RdS w a l ∧ All64 l ∧ len ≤ cap ∧ cap ≤ 9223372036854775807 ∧ (a = none → cap = 0)
theorem open_splices {H : Type} {enc : TypeId × Value → H} {w : World} {base : Nat} {spare : Nat → Bool} {held : Bool} {a : Option Addr} {len cap : Nat} {d : DataW H} {p : List MemPlace}
    (h : DataW.Trod enc Try.prog w base spare held 29 (.slice a len cap) d p) : ∃ l, IsSps w a len cap l := by
  obtain ⟨fuel, hf⟩ := h
  obtain ⟨f0, f1, f2, hst, t0, t1, t2, hone⟩ := splice_fields
  rcases open_slice Try.underlying29 hf with ⟨hcs, _⟩ | ⟨x, l', c', m, n, D, Pl, hcs, hb, hl, hm, hmm, hx, hi⟩
  · simp [Value.cells] at hcs
    obtain ⟨rfl, rfl, rfl⟩ := hcs
    exact ⟨[], rfl, RdS.nil _ _, (by intro y hy; simp at hy), Nat.le_refl _, by omega, fun _ => rfl⟩
  · simp [Value.cells] at hcs
    obtain ⟨rfl, rfl, rfl⟩ := hcs
    have hlm : len ≤ m := by rw [hmm]; split <;> omega
    rw [splice_cells] at hi
    have hall : ∀ i, i < len → ∃ y : Sp, w.cell? (x.add (i * 3)) = some (.int .i64 y.f) ∧ w.cell? (x.add (i * 3 + 1)) = some (.int .i64 y.t) ∧ w.cell? (x.add (i * 3 + 2)) = some (.string y.s) ∧ In64 y := by
      intro i hlt
      obtain ⟨cs', hc, htr⟩ := hi i (by omega)
      obtain ⟨ys, n', hn', hy, hlen, hyl, hfd⟩ := DataW.trod_struct hst htr
      obtain ⟨_, hcl, hat⟩ := World.cells?_some hc
      match cs', hcl with
      | [v0, v1, v2], _ =>
        obtain ⟨o0, k0⟩ := hone_of hone 0 f0 rfl
        obtain ⟨o1, k1⟩ := hone_of hone 1 f1 rfl
        obtain ⟨o2, k2⟩ := hone_of hone 2 f2 rfl
        have e0 := hfd 0 f0 rfl
        have e1 := hfd 1 f1 rfl
        have e2 := hfd 2 f2 rfl
        rw [o0, k0, t0] at e0
        rw [o1, k1, t1] at e1
        rw [o2, k2, t2] at e2
        have hy0 : ys[0]? = some (ys[0]'(by rw [hyl]; simp)) := List.getElem?_eq_getElem _
        have hy1 : ys[1]? = some (ys[1]'(by rw [hyl]; simp)) := List.getElem?_eq_getElem _
        have hy2 : ys[2]? = some (ys[2]'(by rw [hyl]; simp)) := List.getElem?_eq_getElem _
        rw [hy0] at e0
        rw [hy1] at e1
        rw [hy2] at e2
        obtain ⟨z0, h0, _, b0⟩ := DataW.trod_int Try.underlying3 e0
        obtain ⟨z1, h1, _, b1⟩ := DataW.trod_int Try.underlying3 e1
        obtain ⟨z2, h2, _, b2⟩ := DataW.trod_string Try.underlying9 e2
        simp at h0 h1 h2
        have b0' := bounds_i64 b0
        have b1' := bounds_i64 b1
        unfold maxLen at b2
        have a0 := hat 0 (by omega)
        have a1 := hat 1 (by omega)
        have a2 := hat 2 (by omega)
        rw [add_add] at a0 a1 a2
        simp at a0 a1 a2
        refine ⟨⟨z0, z1, z2⟩, by rw [a0, h0], by rw [a1, h1], by rw [a2, h2], b0'.1, b0'.2, b1'.1, b1'.2, b2⟩
    have hin : Inhabited Sp := ⟨sp0⟩
    obtain ⟨F, hF⟩ := choose_lt hall
    refine ⟨(List.range len).map F, by simp, ?_, ?_, hl, by unfold maxLen at hm; omega, fun h => by cases h⟩
    · intro k v hv
      obtain ⟨i, y, hy, hc⟩ := spsC_get _ k v hv
      have hil : i < len := by
        have := (List.getElem?_eq_some_iff.1 hy).1
        simpa using this
      have hyF : F i = y := by
        rw [List.getElem?_map, List.getElem?_range hil] at hy
        simpa using hy
      obtain ⟨c0, c1, c2, _⟩ := hF i hil
      rw [hyF] at c0 c1 c2
      obtain ⟨b, off, spot⟩ := x
      have hspot : spot = none := by
        have := World.cell?_spot (hF 0 (by omega)).1
        simpa [Addr.add] using this
      subst hspot
      rw [add_plain] at c0 c1 c2
      refine ⟨b, off, rfl, ?_⟩
      rcases hc with ⟨rfl, rfl⟩ | ⟨rfl, rfl⟩ | ⟨rfl, rfl⟩
      · exact c0
      · exact c1
      · exact c2
    · intro y hy
      obtain ⟨i, hi', rfl⟩ := List.mem_map.1 hy
      exact (hF i (List.mem_range.1 hi')).2.2.2
end Go.Proofs.Ytegamojidckmcaa
