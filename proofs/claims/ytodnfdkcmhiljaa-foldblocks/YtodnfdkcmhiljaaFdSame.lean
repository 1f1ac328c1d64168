/- The program's and the document's ways to a block scalar's rows come to the same. No program. -/
import Derived.Test.YtodnfdkcmhiljaaFdRBody2
namespace Go.Proofs.Ytodnfdkcmhiljaa
open Go.RowKit
set_option linter.unusedVariables false

theorem nblg_fill (zs : List Int) (col : Nat) : ∀ ls : List Ln, nblg zs col ls = nfill zs ls + nblg zs col (ls.drop (nfill zs ls)) := by
  intro ls
  induction ls with
  | nil => simp [nfill, nblg]
  | cons x t ih =>
    by_cases hb : blkF zs x = true
    · have h1 : nfill zs (x :: t) = nfill zs t + 1 := by simp [nfill, hb]
      have h2 : nblg zs col (x :: t) = nblg zs col t + 1 := by simp [nblg, blg, hb]
      rw [h1, h2, List.drop_succ_cons, ih]; omega
    · have h1 : nfill zs (x :: t) = 0 := by simp [nfill, hb]
      rw [h1]; simp
theorem nblg_from (zs : List Int) (col : Nat) (ls : List Ln) (first : Nat) : first + nfill zs (ls.drop first) + nblg zs col (ls.drop (first + nfill zs (ls.drop first))) = first + nblg zs col (ls.drop first) := by
  have := nblg_fill zs col (ls.drop first)
  rw [List.drop_drop] at this
  omega
/-- Lines that are all blank come to the same at all columns far out. -/
theorem body_far (zs : List Int) (ls : List Ln) (first nx col col' : Nat) (h : ∀ l ∈ (ls.drop first).take (nx - first), blkF zs l = true ∧ indF zs l ≤ zs.length) (h1 : zs.length ≤ col) (h2 : zs.length ≤ col') : bodyF zs ls first col nx = bodyF zs ls first col' nx := by
  unfold bodyF
  generalize (ls.drop first).take (nx - first) = rs at h
  have ha : ∀ c, zs.length ≤ c → rs.any (badF zs c) = false := by
    intro c hc
    rw [List.any_eq_false]
    intro l hl
    have := (h l hl).2
    simp [badF]; intro _; omega
  have hm : ∀ c, rs.map (rowF zs c) = rs.map (fun _ => []) := by
    intro c
    apply List.map_congr_left
    intro l hl
    simp [rowF, (h l hl).1]
  rw [ha col h1, ha col' h2, hm col, hm col']
theorem lies_mem {n : Nat} {ls : List Ln} (hv : Lies n ls) {l : Ln} (h : l ∈ ls) : l.f ≤ l.t ∧ l.t ≤ n := by
  obtain ⟨k, hk⟩ := List.mem_iff_getElem?.1 h
  have hk' : k < ls.length := by
    rcases Nat.lt_or_ge k ls.length with h' | h'
    · exact h'
    · rw [List.getElem?_eq_none h'] at hk; cases hk
  have := hv k hk'
  rwa [show lnAt ls k = l by simp [lnAt, List.getD, hk]] at this
theorem nblg_blank (zs : List Int) (col : Nat) (ls : List Ln) (hf : ∀ l ∈ ls, indF zs l < col) : ∀ l ∈ ls.take (nblg zs col ls), blkF zs l = true := by
  intro l hl
  obtain ⟨k, hk⟩ := List.mem_iff_getElem?.1 hl
  rw [List.getElem?_take] at hk
  split at hk
  · rename_i hlt
    obtain ⟨x, h1, h2⟩ := blg_upto zs col ls k hlt
    rw [h1] at hk
    injection hk with hk
    subst hk
    have := hf x (List.mem_of_getElem? h1)
    unfold blg at h2
    rw [decide_eq_false (by omega)] at h2
    simpa using h2
  · cases hk
theorem nblg_far (zs : List Int) (col col' : Nat) : ∀ ls : List Ln, (∀ l ∈ ls, indF zs l < col ∧ indF zs l < col') → nblg zs col ls = nblg zs col' ls := by
  intro ls
  induction ls with
  | nil => intro _; rfl
  | cons x t ih =>
    intro h
    have hx := h x (by simp)
    have e : blg zs col x = blg zs col' x := by
      unfold blg
      rw [decide_eq_false (show ¬ col ≤ indF zs x by omega), decide_eq_false (show ¬ col' ≤ indF zs x by omega)]
    simp only [nblg]
    rw [e, ih (fun l hl => h l (by simp [hl]))]
theorem body_same (zs : List Int) (ls : List Ln) (first : Nat) (parent : Int) (dg : Nat) (hv : Lies zs.length ls) (hf : first ≤ ls.length) :
    bodyF zs ls first (refExt zs ls first parent dg).1 (refExt zs ls first parent dg).2 = bodyF zs ls first (extF zs ls first parent dg).1 (extF zs ls first parent dg).2 := by
  have hi : ∀ l ∈ ls, indF zs l ≤ zs.length := fun l hl => by
    have := lies_mem hv hl
    have := indF_le zs l this.1
    omega
  have hid : ∀ l ∈ ls.drop first, indF zs l ≤ zs.length := fun l hl => hi l (List.mem_of_mem_drop hl)
  have hfr := fun col => nblg_from zs col ls first
  unfold refExt extF
  simp only []
  generalize (max parent 0).toNat = base
  split
  · simp only [hfr]
    by_cases he : base + dg = min base (zs.length + 1) + min dg (zs.length + 1)
    · rw [he]
    · have h1 : zs.length < base + dg := by omega
      have h2 : zs.length < min base (zs.length + 1) + min dg (zs.length + 1) := by omega
      rw [nblg_far zs (base + dg) (min base (zs.length + 1) + min dg (zs.length + 1)) (ls.drop first) (fun l hl => ⟨by have := hid l hl; omega, by have := hid l hl; omega⟩)]
      apply body_far
      · intro l hl
        rw [show first + nblg zs (min base (zs.length + 1) + min dg (zs.length + 1)) (ls.drop first) - first = nblg zs (min base (zs.length + 1) + min dg (zs.length + 1)) (ls.drop first) by omega] at hl
        exact ⟨nblg_blank zs _ _ (fun l hl => by have := hid l hl; omega) l hl, hid l (List.mem_of_mem_take hl)⟩
      · omega
      · omega
  · split
    · simp only []
      by_cases he : base ≤ zs.length + 1
      · rw [Nat.min_eq_left he]
      · apply body_far
        · intro l hl
          rw [show first + nfill zs (ls.drop first) - first = nfill zs (ls.drop first) by omega] at hl
          refine ⟨?_, hid l (List.mem_of_mem_take hl)⟩
          obtain ⟨k, hk⟩ := List.mem_iff_getElem?.1 hl
          rw [List.getElem?_take] at hk
          split at hk
          · rename_i hlt
            obtain ⟨x, h1, h2⟩ := blk_upto zs (ls.drop first) k hlt
            rw [h1] at hk
            injection hk with hk
            subst hk
            exact h2
          · cases hk
        · omega
        · omega
    · simp only [hfr]
end Go.Proofs.Ytodnfdkcmhiljaa
