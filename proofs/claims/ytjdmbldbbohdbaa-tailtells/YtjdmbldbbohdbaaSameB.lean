/- Same of bytes; bytes in new memory with all that lies behind them (FreshB), and Spoil of them. -/
import Derived.Test.YtjdmbldbbohdbaaBase
namespace Go.Proofs.Ytjdmbldbbohdbaa
open Go.RowKit
set_option linter.unusedVariables false

set_option maxHeartbeats 1000000 in
theorem sameB_any (A B : Option Addr) (n c d : Nat) (zs : List Int) (w : World) (hl : zs.length = n) (hn : n ≤ 1000000000) (hnc : n ≤ c) (hnd : n ≤ d) (ha : RdB w A zs) (hb : RdB w B zs) :
    Calls Try.prog 13 #[.slice A n c, .slice B n d] w fun e w' => e = .returned (.bool true) ∧ Below w.heap.size w w' := by
  subst hl
  have HA := Lib.hid ha
  have HB := Lib.hid hb
  clear ha hb
  go_enter Try.func13, Try.ntmps13
  go_wp2
  go_loopw [5] (fun i W => ∃ k : Nat, k ≤ zs.length ∧ i = .int .i64 (k : Int) ∧ Hid (Below w.heap.size w W)) (fun i _ => zs.length - (intOf i).toNat)
  case atStart => exact ⟨0, by omega, rfl, Below.refl _ _⟩
  case round =>
    obtain ⟨k, hk, rfl, HK⟩ := hrel
    by_cases hlt : k < zs.length
    · obtain ⟨b, off, rfl, hc⟩ := (HA.out.below HK.out).addr (by omega)
      obtain ⟨b', off', rfl, hc'⟩ := (HB.out.below HK.out).addr (by omega)
      have c1 := hc k hlt
      have c2 := hc' k hlt
      generalize zs.getD k 0 = x at *
      have d1 : (k : Int) < (zs.length : Int) := by omega
      clear hc hc'
      go_wp2_with fail
      go_quiet (fail)
      go_wp2
      go_roundw
      case rel => exact ⟨k + 1, by omega, by go_num, below_draws HK.out _⟩
      case measure => simp [intOf]; omega
    · go_wp2
      go_ret
      exact ⟨rfl, HK.out⟩

/-- Bytes zs in memory of the call's own: a block that is zs and ys, of which nobody else knows. -/
def FreshB (w : World) (zs : List Int) (e : Ending) (w' : World) : Prop :=
  ∃ A cap, e = .returned (.slice A zs.length cap) ∧ zs.length ≤ cap ∧ cap ≤ 9223372036854775807 ∧ (A = none → cap = 0) ∧ RdB w' A zs ∧ Below w.heap.size w w' ∧
    (cap = 0 ∨ ∃ g ys, A = some ⟨g, 0, none⟩ ∧ w.heap.size ≤ g ∧ OwnB w' g (zs ++ ys) ∧ (zs ++ ys).length = cap)
set_option maxHeartbeats 1000000 in
theorem spoil_any (g n cap : Nat) (zs : List Int) (w : World) (hn : n ≤ cap) (hl : zs.length = cap) (hc : cap ≤ 9223372036854775807) (ho : OwnB w g zs) :
    Calls Try.prog 14 #[.slice (some ⟨g, 0, none⟩) n cap] w fun e w' => e = .returned (.tuple #[]) ∧ Below g w w' := by
  have HO := Lib.hid ho
  clear ho
  go_enter Try.func14, Try.ntmps14
  go_wp2
  go_loopw [10] (fun i W => ∃ (k : Nat) (ys : List Int), k ≤ cap ∧ ys.length = cap ∧ i = .int .i64 (k : Int) ∧ Hid (OwnB W g ys ∧ Below g w W)) (fun i _ => cap - (intOf i).toNat)
  case atStart => exact ⟨0, zs, by omega, hl, rfl, HO.out, Below.refl _ _⟩
  case round =>
    obtain ⟨k, ys, hk, hy, rfl, HK⟩ := hrel
    by_cases hlt : k < cap
    · have hcz := HK.out.1.at_ k _ (getD_at (by omega))
      have hfz := HK.out.1.frozen k
      have d : (k : Int) < (cap : Int) := by omega
      go_wp2
      go_roundw
      case rel =>
        exact ⟨k + 1, _, by omega, by rw [List.length_set]; exact hy, by go_num, HK.out.1.set _ _, HK.out.2.setCell (Nat.le_refl _) _⟩
      case measure => simp [intOf]; omega
    · go_wp2
      try simp only [Exit.inBlock, Exit.then]
      exact bodyPost_end (results_none rfl _ _ _) rfl ⟨rfl, HK.out.2⟩
end Go.Proofs.Ytjdmbldbbohdbaa
