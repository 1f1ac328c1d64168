/- The contracts of package single: quoted, length, inLine, Take, Put; strings.ReplaceAll at quotes. -/
import Derived.Test.YtfapjbklkfdnhaaDoorSgPure
import Derived.Test.YtfapjbklkfdnhaaDoorCleanRef
import Derived.Test.YtfapjbklkfdnhaaDoorShelf
import Derived.Test.YtfapjbklkfdnhaaDoorDoor
namespace Go.Proofs.YtfapjbklkfdnhaaDoor
open Go.RowKit
set_option linter.unusedVariables false

theorem MaxL.below {w w' : World} (h : MaxL w) (hb : Below w.heap.size w w') : MaxL w' := by
  obtain ⟨x, hx⟩ := h
  exact ⟨x, cell_keep hb hx⟩

theorem num_mk (l : List UInt8) : byt ⟨l.toArray⟩ = num l := by simp [byt, num]
theorem data_39 : (⟨#[39]⟩ : ByteArray).data.toList = [39] := rfl
theorem data_3939 : (⟨#[39, 39]⟩ : ByteArray).data.toList = [39, 39] := rfl

/-- Each quote doubled. -/
theorem replace_dbl (s : ByteArray) (w : World) (hM : MaxL w) (hs : s.size ≤ 1000000000) (t : ByteArray) (ht : byt t = dbl (byt s)) :
    Calls Tryd.prog 18 #[.string s, .string ⟨#[39]⟩, .string ⟨#[39, 39]⟩] w fun e w' => e = .returned (.string t) ∧ Below w.heap.size w w' := by
  obtain ⟨x, hx⟩ := hM
  have hc := Lib.countB_mul_le ⟨#[39]⟩ (by decide) s.size s (Nat.le_refl _)
  refine (Tryd.strings_ReplaceAll s ⟨#[39]⟩ ⟨#[39, 39]⟩ x w (by omega) hx (by decide) ?_).mono ?_
  · have e1 : (⟨#[39]⟩ : ByteArray).size = 1 := rfl
    have e2 : (⟨#[39, 39]⟩ : ByteArray).size = 2 := rfl
    rw [e1] at hc; rw [e2]; omega
  · rintro e w' ⟨rfl, hb⟩
    refine ⟨ret_str (byt_inj ?_), hb⟩
    rw [ht, num_mk, data_39, data_3939, num_dbl, num_byt]
/-- Each doubled quote as one. -/
theorem replace_sgl (s : ByteArray) (w : World) (hM : MaxL w) (hs : s.size ≤ 1000000000) (t : ByteArray) (ht : byt t = sgl (byt s)) :
    Calls Tryd.prog 18 #[.string s, .string ⟨#[39, 39]⟩, .string ⟨#[39]⟩] w fun e w' => e = .returned (.string t) ∧ Below w.heap.size w w' := by
  obtain ⟨x, hx⟩ := hM
  have hc := Lib.countB_mul_le ⟨#[39, 39]⟩ (by decide) s.size s (Nat.le_refl _)
  refine (Tryd.strings_ReplaceAll s ⟨#[39, 39]⟩ ⟨#[39]⟩ x w (by omega) hx (by decide) ?_).mono ?_
  · have e1 : (⟨#[39]⟩ : ByteArray).size = 1 := rfl
    have e2 : (⟨#[39, 39]⟩ : ByteArray).size = 2 := rfl
    rw [e2] at hc; rw [e1]; omega
  · rintro e w' ⟨rfl, hb⟩
    refine ⟨ret_str (byt_inj ?_), hb⟩
    rw [ht, num_mk, data_39, data_3939, num_sgl _ _ (Nat.le_refl _), num_byt]

set_option maxHeartbeats 1000000 in
theorem quoted_any (A : Option Addr) (n c k : Nat) (ki : Int) (hki : ki = (k : Int)) (zs : List Int) (w : World) (hl : zs.length = n) (hnc : n ≤ c) (hm : c ≤ 9223372036854775807) (hr : RdB w A zs) (v : Bool) (hv : (decide (k < n) && zs.getD k 0 == 39) = v) :
    Calls Tryd.prog 21 #[.slice A n c, .int .i64 ki] w fun e w' => e = .returned (.bool v) ∧ Below w.heap.size w w' := by
  subst hki
  by_cases h : k < n
  · obtain ⟨b, off, rfl, hc⟩ := hr.addr (by omega)
    have c0 := hc k (by omega)
    rw [decide_eq_true h] at hv
    simp only [Bool.true_and] at hv
    generalize zs.getD k 0 = z at *
    have HV := Lib.hid hv
    have d : (k : Int) < (n : Int) := by omega
    have B0 : Hid (Below w.heap.size w w) := Below.refl _ _
    clear hc hv hr hl
    go_enter Tryd.func21, Tryd.ntmps21
    go_wp2_with fail
    go_quiet (fail)
    go_wp2
    go_ret
    exact ⟨ret_bool HV.out, below_draws B0.out _⟩
  · have d : decide ((k : Int) < (n : Int)) = false := decide_eq_false (by omega)
    rw [decide_eq_false h] at hv
    simp only [Bool.false_and] at hv
    subst hv
    have B0 : Hid (Below w.heap.size w w) := Below.refl _ _
    clear hr hl
    go_enter Tryd.func21, Tryd.ntmps21
    go_wp2_with fail
    go_quiet (fail)
    go_wp2
    go_ret
    exact ⟨rfl, below_draws B0.out _⟩
end Go.Proofs.YtfapjbklkfdnhaaDoor
