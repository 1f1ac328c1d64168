/- fold.belongs. -/
import Derived.Test.YtodnfdkcmhiljaaFdBLeaf
namespace Go.Proofs.Ytodnfdkcmhiljaa
open Go.RowKit
set_option linter.unusedVariables false

set_option maxHeartbeats 2000000 in
set_option maxRecDepth 100000 in
theorem belongs_any (b off : Nat) (n c : Nat) (zs : List Int) (l : Ln) (col : Nat) (w : World) (hl : zs.length = n) (hnc : n ≤ c) (hm : c ≤ 9223372036854775807) (hn : n ≤ 1000000) (hb : Byte zs) (hr : RdB w (some ⟨b, off, none⟩) zs) (hft : l.f ≤ l.t) (htn : l.t ≤ n) (v : Bool) (hv : blg zs col l = v) :
    Calls Try.prog 52 #[.slice (some ⟨b, off, none⟩) n c, lnV l, .int .i64 (col : Int)] w fun e w' => e = .returned (.bool v) ∧ Below w.heap.size w w' := by
  obtain ⟨k, hk⟩ : ∃ k, blkF zs l = k := ⟨_, rfl⟩
  obtain ⟨j, hj⟩ : ∃ j, indF zs l = j := ⟨_, rfl⟩
  obtain ⟨d, hd⟩ : ∃ d, dmk zs l = d := ⟨_, rfl⟩
  have hv' : (k || (decide (col ≤ j) && !d)) = v := by rw [← hv]; unfold blg; rw [hk, hj, hd]
  have HR := Lib.hid hr
  have HB := Lib.hid hb
  have HX := Lib.hid (And.intro hl (And.intro hk (And.intro hj hd)))
  clear hr hb hl hk hj hd hv
  obtain ⟨W0, hW0⟩ : ∃ x, w.alloc (.cells #[.int .i64 (l.f : Int), .int .i64 (l.t : Int), .int .i64 (l.n : Int)] 63) = x := ⟨_, rfl⟩
  have hg : W0.heap[w.heap.size]? = some (.cells #[.int .i64 (l.f : Int), .int .i64 (l.t : Int), .int .i64 (l.n : Int)] 63) := by rw [← hW0]; exact heap_alloc_new _ _
  have hs0 : w.heap.size < W0.heap.size := by rw [← hW0]; simp
  have HB0 : Hid (Below w.heap.size w W0) := by rw [← hW0]; exact (Below.refl _ _).alloc (Nat.le_refl _) _
  have HC : Hid (∀ X, Below W0.heap.size W0 X → X.cell? ⟨w.heap.size, 0, none⟩ = some (.int .i64 (l.f : Int)) ∧ X.cell? ⟨w.heap.size, 1, none⟩ = some (.int .i64 (l.t : Int)) ∧ X.cell? ⟨w.heap.size, 2, none⟩ = some (.int .i64 (l.n : Int))) := fun X hX => by
    have := (hX.block _ hs0).trans hg
    refine ⟨?_, ?_, ?_⟩ <;> simp [World.cell?, this]
  clear hg
  have hbk := blank_any b off n c zs l W0 HX.out.1 hnc hn (HR.out.below HB0.out) hft htn k HX.out.2.1
  unfold lnV at hbk ⊢
  have HBK := Lib.hid hbk
  clear hbk
  obtain ⟨e0, e1, e2⟩ := HC.out W0 (Below.refl _ _)
  go_enter Try.func52, Try.ntmps52
  go_wp2_with fail
  clear e0 e1 e2
  refine HBK.out.mono ?_
  rintro e W1 ⟨rfl, hb1⟩
  obtain ⟨c0, c1, c2⟩ := HC.out W1 hb1
  have HB1 := Lib.hid hb1
  clear hW0 HBK hb1
  cases k with
  | true =>
    have hv : v = true := by rw [← hv']; rfl
    subst hv
    go_wp2_with fail
    go_ret
    exact ⟨rfl, below_step HB0.out HB1.out⟩
  | false =>
    have hin := indent_any b off n c zs l W1 HX.out.1 hnc hn (HR.out.below (below_step HB0.out HB1.out)) hft htn j HX.out.2.2.1
    unfold lnV at hin
    have HIN := Lib.hid hin
    clear hin
    go_wp2_with fail
    refine HIN.out.mono ?_
    rintro e W2 ⟨rfl, hb2⟩
    obtain ⟨k0, k1, k2⟩ := HC.out W2 (below_step HB1.out hb2)
    have HB2 := Lib.hid (below_step HB1.out hb2)
    clear hb2 HIN c0 c1 c2
    by_cases hcj : col ≤ j
    · rw [decide_eq_true hcj] at hv'
      have d1 : (col : Int) ≤ (j : Int) := by omega
      have hdm := documentMark_any b off n c zs l W2 HX.out.1 hnc hm hn HB.out (HR.out.below (below_step HB0.out HB2.out)) hft htn d HX.out.2.2.2
      unfold lnV at hdm
      have HDM := Lib.hid hdm
      clear hdm
      have HV := Lib.hid hv'
      clear hv'
      go_wp2_with fail
      refine HDM.out.mono ?_
      rintro e W3 ⟨rfl, hb3⟩
      have HB3 := Lib.hid (below_step HB2.out hb3)
      clear hb3 HDM
      go_wp2_with fail
      go_ret
      exact ⟨ret_bool (by rw [← HV.out]; simp), below_step HB0.out HB3.out⟩
    · have hv : v = false := by rw [← hv', decide_eq_false hcj]; rfl
      subst hv
      have d1 : decide (col ≤ j) = false := decide_eq_false hcj
      clear hv'
      go_wp2_with fail
      go_ret
      exact ⟨rfl, below_step HB0.out HB2.out⟩
end Go.Proofs.Ytodnfdkcmhiljaa
