/- What the laws of chapter 11 need beside: calls on a text's own bytes; Spoil of what Rest tells; the law's heads. -/
import Derived.Test.YtjdmbldbbohdbaaTlRef
namespace Go.Proofs.Ytjdmbldbbohdbaa
open Go.RowKit
set_option linter.unusedVariables false

theorem mark_txt {w W W' : World} {u : ByteArray} {cap : Nat} (B : Bytes W u cap W') (hb : Below w.heap.size w W) (zs : List Int) (hz : byt u = zs) (v : Int) (hv : mrkF zs = v) :
    Calls Try.prog 9 #[.slice (some ⟨W.heap.size, 0, none⟩) u.size cap] W' fun e w' => e = .returned (.int .i64 v) ∧ Below w.heap.size w w' := by
  subst hz hv
  have hb2 := below_step hb B.below
  refine (mark_any _ u.size cap (byt u) W' (byt_len u) B.le B.max (fun h => by cases h) B.rd (byt_byte u)).mono ?_
  rintro e w' ⟨rfl, h⟩
  exact ⟨rfl, below_step hb2 h⟩
theorem clear_txt {w W W' : World} {u : ByteArray} {cap : Nat} (B : Bytes W u cap W') (hb : Below w.heap.size w W) (zs : List Int) (hz : byt u = zs) (v : Bool) (hv : clrF zs = v) :
    Calls Try.prog 18 #[.slice (some ⟨W.heap.size, 0, none⟩) u.size cap] W' fun e w' => e = .returned (.bool v) ∧ Below w.heap.size w w' := by
  subst hz
  have hb2 := below_step hb B.below
  refine (clear_any _ u.size cap (byt u) W' (byt_len u) B.le B.max B.rd v hv).mono ?_
  rintro e w' ⟨rfl, rfl⟩
  exact ⟨rfl, hb2⟩
theorem comment_txt {w W W' : World} {u : ByteArray} {cap : Nat} (B : Bytes W u cap W') (hb : Below w.heap.size w W) (zs : List Int) (hz : byt u = zs) (k : Int) (v : Bool) (hv : cmtF zs = v) (hk : (if v then (blkF zs : Int) else 0) = k) :
    Calls Try.prog 16 #[.slice (some ⟨W.heap.size, 0, none⟩) u.size cap] W' fun e w' => e = .returned (.tuple #[.int .i64 k, .bool v]) ∧ Below w.heap.size w w' := by
  subst hz hv hk
  have hb2 := below_step hb B.below
  refine (comment_any _ u.size cap (byt u) W' (byt_len u) B.le B.max B.rd).mono ?_
  rintro e w' ⟨rfl, rfl⟩
  exact ⟨rfl, hb2⟩
set_option maxHeartbeats 1000000 in
theorem spoil_none (A : Option Addr) (n : Nat) (w : World) (hn : n ≤ 0) : Calls Try.prog 14 #[.slice A n 0] w fun e w' => e = .returned (.tuple #[]) ∧ w = w' := by
  obtain rfl : n = 0 := by omega
  cases A <;>
  · go_enter Try.func14, Try.ntmps14
    go_wp2
    go_loop [10] (fun i => i = .int .i64 0) (fun i => 0)
    case atStart => rfl
    case round =>
      obtain rfl := hrel
      go_wp2
      try simp only [Exit.inBlock, Exit.then]
      exact bodyPost_end (results_none rfl _ _ _) rfl ⟨rfl, rfl⟩
theorem spoil_fresh (B : Nat) (A : Option Addr) (n cap : Nat) (zs : List Int) (w : World) (hn : n ≤ cap) (hc : cap ≤ 9223372036854775807)
    (h : cap = 0 ∨ ∃ g ys, A = some ⟨g, 0, none⟩ ∧ B ≤ g ∧ OwnB w g (zs ++ ys) ∧ (zs ++ ys).length = cap) :
    Calls Try.prog 14 #[.slice A n cap] w fun e w' => e = .returned (.tuple #[]) ∧ Below B w w' := by
  rcases h with rfl | ⟨g, ys, rfl, hg, ho, hl⟩
  · refine (spoil_none A n w hn).mono ?_
    rintro e w' ⟨rfl, rfl⟩
    exact ⟨rfl, Below.refl _ _⟩
  · refine (spoil_any g n cap _ w hn hl hc ho).mono ?_
    rintro e w' ⟨rfl, h⟩
    exact ⟨rfl, h.mono hg⟩
def headL : List ByteArray := [⟨#[]⟩, ⟨#[45, 45, 45]⟩, ⟨#[46, 46, 46]⟩, ⟨#[32]⟩, ⟨#[32, 32, 35]⟩, ⟨#[45, 45, 45, 32]⟩, ⟨#[35]⟩, ⟨#[46, 46, 46, 32, 35]⟩, ⟨#[45, 45]⟩, ⟨#[45, 45, 45, 9]⟩]
theorem headL_at : ∀ k, k < 10 → ∃ d : ByteArray, headL[k]? = some d ∧ d.size ≤ 5 := by
  intro k hk
  have hl : headL.length = 10 := rfl
  have hs : ∀ d ∈ headL, d.size ≤ 5 := by
    intro d hd
    have : headL.all (fun d => decide (d.size ≤ 5)) = true := by decide +kernel
    exact of_decide_eq_true (List.all_eq_true.1 this d hd)
  exact ⟨headL[k]'(by omega), List.getElem?_eq_getElem (by omega), hs _ (List.getElem_mem _)⟩
end Go.Proofs.Ytjdmbldbbohdbaa
