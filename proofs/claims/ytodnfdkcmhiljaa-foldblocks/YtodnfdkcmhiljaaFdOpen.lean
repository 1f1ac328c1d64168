/- A header that came in; two rows of texts held against each other; what a split text's lines are. -/
import Derived.Test.YtodnfdkcmhiljaaFdSame
import Derived.Test.YtodnfdkcmhiljaaFdReg
import Derived.Deep.Slices
import Derived.Deep.Fields
import Derived.ChangeSame
namespace Go.Proofs.Ytodnfdkcmhiljaa
open Go.RowKit Go.ChangeShapes Go.WideShapes Go.Deep
set_option linter.unusedVariables false

theorem header_fields : ∃ f0 f1 f2 f3 : Field, Try.prog.underlying 27 = some (.struct #[f0, f1, f2, f3]) ∧ f0.type = 4 ∧ f1.type = 4 ∧ f2.type = 4 ∧ f3.type = 3 ∧ oneCellFields Try.prog #[f0, f1, f2, f3] = true :=
  ⟨_, _, _, _, Try.underlying27, rfl, rfl, rfl, rfl, by kernel_rfl⟩
theorem header_cells : Try.prog.cellsOf 27 = 4 := by kernel_rfl
theorem open_header {H : Type} {enc : TypeId × Value → H} {w : World} {base base' : Nat} {spare : Nat → Bool} {held : Bool} {v : Value} {d : DataW H} {p : List MemPlace}
    (hv : Value.okWide Try.prog w .any base' 27 v) (h : DataW.Trod enc Try.prog w base spare held 27 v d p) : ∃ (fo st ke : Bool) (dg : Int), v = .agg #[.bool fo, .bool st, .bool ke, .int .i64 dg] ∧ (Lit.int .i64 dg).wf = true := by
  obtain ⟨f0, f1, f2, f3, hst, t0, t1, t2, t3, hone⟩ := header_fields
  obtain ⟨cs, rfl, hsz⟩ := okWide_struct hst hv
  rw [header_cells] at hsz
  obtain ⟨fuel, hf⟩ := h
  obtain ⟨ys, n', hn', hy, hlen, hyl, hfd⟩ := DataW.trod_struct hst hf
  obtain ⟨l⟩ := cs
  match l, hsz with
  | [v0, v1, v2, v3], _ =>
    simp only [Value.cells] at hfd
    obtain ⟨o0, k0⟩ := hone_of hone 0 f0 rfl
    obtain ⟨o1, k1⟩ := hone_of hone 1 f1 rfl
    obtain ⟨o2, k2⟩ := hone_of hone 2 f2 rfl
    obtain ⟨o3, k3⟩ := hone_of hone 3 f3 rfl
    have e0 := hfd 0 f0 rfl
    have e1 := hfd 1 f1 rfl
    have e2 := hfd 2 f2 rfl
    have e3 := hfd 3 f3 rfl
    rw [o0, k0, t0] at e0
    rw [o1, k1, t1] at e1
    rw [o2, k2, t2] at e2
    rw [o3, k3, t3] at e3
    have hy0 : ys[0]? = some (ys[0]'(by rw [hyl]; simp)) := List.getElem?_eq_getElem _
    have hy1 : ys[1]? = some (ys[1]'(by rw [hyl]; simp)) := List.getElem?_eq_getElem _
    have hy2 : ys[2]? = some (ys[2]'(by rw [hyl]; simp)) := List.getElem?_eq_getElem _
    have hy3 : ys[3]? = some (ys[3]'(by rw [hyl]; simp)) := List.getElem?_eq_getElem _
    rw [hy0] at e0
    rw [hy1] at e1
    rw [hy2] at e2
    rw [hy3] at e3
    obtain ⟨z0, h0, _⟩ := DataW.trod_bool Try.underlying4 e0
    obtain ⟨z1, h1, _⟩ := DataW.trod_bool Try.underlying4 e1
    obtain ⟨z2, h2, _⟩ := DataW.trod_bool Try.underlying4 e2
    obtain ⟨z3, h3, _, b3⟩ := DataW.trod_int Try.underlying3 e3
    simp at h0 h1 h2 h3
    subst h0 h1 h2 h3
    exact ⟨z0, z1, z2, z3, rfl, b3⟩

set_option maxHeartbeats 1000000 in
theorem same_any (A B : Option Addr) (n c m d : Nat) (l : List ByteArray) (w : World) (hl : l.length = n) (hnm : m = n) (hn : n ≤ 9223372036854775807) (hr : RdC w A (l.map Value.string)) (hs : RdC w B (l.map Value.string)) :
    Calls Try.prog 19 #[.slice A n c, .slice B m d] w fun e w' => e = .returned (.bool true) ∧ Below w.heap.size w w' := by
  subst hnm
  have HR := Lib.hid hr
  have HS := Lib.hid hs
  have HL := Lib.hid hl
  clear hr hs hl
  go_enter Try.func19, Try.ntmps19
  go_wp2_with fail
  go_loopw [5] (fun i W => ∃ j : Nat, j ≤ m ∧ i = .int .i64 (j : Int) ∧ Hid (Below w.heap.size w W)) (fun i _ => m - (intOf i).toNat)
  case atStart => exact ⟨0, by omega, rfl, Below.refl _ _⟩
  case round =>
    obtain ⟨j, hj, rfl, HK⟩ := hrel
    by_cases hlt : j < m
    · have dj : (j : Int) < (m : Int) := by omega
      obtain ⟨b, off, rfl, hc⟩ := (HR.out.below HK.out).addr (by simp; rw [HL.out]; omega)
      obtain ⟨b2, off2, rfl, hc2⟩ := (HS.out.below HK.out).addr (by simp; rw [HL.out]; omega)
      obtain ⟨s, hs⟩ : ∃ s, l[j]? = some s := ⟨_, List.getElem?_eq_getElem (by rw [HL.out]; exact hlt)⟩
      have c1 := hc j (.string s) (by simp [hs])
      have c2 := hc2 j (.string s) (by simp [hs])
      clear hc hc2 hs
      go_wp2_with fail
      go_quiet (fail)
      go_wp2_with fail
      go_roundw
      case rel => exact ⟨j + 1, by omega, by go_num, below_draws HK.out _⟩
      case measure => simp [intOf]; omega
    · have dj : decide (j < m) = false := decide_eq_false hlt
      go_wp2
      go_ret
      exact ⟨rfl, HK.out⟩
theorem split_lies (zs : List Int) : Lies zs.length (splitF zs) := fun k hk => by
  have := split_bd zs k hk
  exact ⟨this.1, by omega⟩
end Go.Proofs.Ytodnfdkcmhiljaa
