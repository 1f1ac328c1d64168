/- Valid, growth. -/
import Derived.Test.YtegamojidckmcaaSp
namespace Go.Proofs.Ytegamojidckmcaa
open Go.RowKit
set_option linter.unusedVariables false

theorem splice_info : (Try.prog.info? 28).map (fun i => (i.zero, i.size, i.bytes)) = some (some (.agg #[.int .i64 0, .int .i64 0, .string ⟨#[]⟩]), 3, 32) := by kernel_rfl

set_option maxHeartbeats 400000 in
theorem growth_any (x : Sp) (w : World) (h1 : 0 ≤ x.f) (h2 : x.f ≤ x.t) (h3 : x.t ≤ 4000000000000000000) (h4 : x.s.size ≤ 4000000000000000000) :
    Calls Try.prog 27 #[spV x] w fun e w' => e = .returned (.int .i64 (grw x)) ∧ Below w.heap.size w w' := by
  obtain ⟨f, t, s⟩ := x
  simp only [spV, grw] at *
  go_enter Try.func27, Try.ntmps27
  go_wp2
  go_ret
  refine ⟨ret_int ?_, (Below.refl _ _).alloc (Nat.le_refl _) _⟩
  go_num

set_option maxHeartbeats 2000000 in
theorem valid_any (A : Option Addr) (m c : Nat) (l : List Sp) (n : Int) (w : World) (hl : l.length = m) (hmc : m ≤ c) (hc : c ≤ 9223372036854775807) (h64 : All64 l) (hr : RdS w A l) (hn : -9223372036854775808 ≤ n ∧ n ≤ 9223372036854775807) :
    Calls Try.prog 11 #[.int .i64 n, .slice A m c] w fun e w' => e = .returned (.bool (validF n 0 l)) ∧ Below w.heap.size w w' := by
  subst hl
  have HR := Lib.hid hr
  have H64 := Lib.hid h64
  obtain ⟨v, hv⟩ : ∃ v, v = validF n 0 l := ⟨_, rfl⟩
  rw [← hv]
  have HV := Lib.hid hv
  clear hr h64 hv
  obtain ⟨hn1, hn2⟩ := hn
  go_enter Try.func11, Try.ntmps11
  go_wp2
  go_loopw [5, 10] (fun e i W => ∃ (k : Nat) (z : Int), k ≤ l.length ∧ i = .int .i64 (k : Int) ∧ e = .int .i64 z ∧ -9223372036854775808 ≤ z ∧ z ≤ 9223372036854775807 ∧ Hid (v = validF n z (l.drop k) ∧ Below w.heap.size w W)) (fun _ i _ => l.length - (intOf i).toNat)
  case atStart => exact ⟨0, 0, by omega, rfl, rfl, by omega, by omega, by rw [List.drop_zero]; exact HV.out, Below.refl _ _⟩
  case round =>
    obtain ⟨k, z, hk, rfl, rfl, hz1, hz2, HK⟩ := hrel
    by_cases hlt : k < l.length
    · obtain ⟨b, off, rfl, hbl, hcell⟩ := (HR.out.below HK.out.2).addr (by omega)
      obtain ⟨c0, c1, c2⟩ := hcell k hlt
      have hx := H64.out _ (spAt_mem hlt)
      have hd := drop_cons hlt
      generalize spAt l k = x at *
      obtain ⟨hx1, hx2, hx3, hx4, hx5⟩ := hx
      have HD := Lib.hid hd
      clear hcell hd HR
      have hb2 := HK.out.2
      have hv2 := HK.out.1
      rw [HD.out] at hv2
      have HK2 := Lib.hid (And.intro hb2 hv2)
      clear hb2 hv2 HK
      by_cases hbad : x.f < z ∨ x.t < x.f ∨ n < x.t
      · have hvv := HK2.out.2
        rw [valid_bad hbad] at hvv
        subst hvv
        go_wp2
        all_goals (go_ret; first | exact ⟨rfl, HK2.out.1.alloc HK2.out.1.size _⟩ | (exfalso; omega))
      · have d1 : decide (x.f < z) = false := decide_eq_false (by omega)
        have d2 : decide (x.t < x.f) = false := decide_eq_false (by omega)
        have d3 : decide (n < x.t) = false := decide_eq_false (by omega)
        go_wp2
        go_roundw
        case rel =>
          refine ⟨k + 1, x.t, by omega, by go_num, rfl, hx3, hx4, ?_, HK2.out.1.alloc HK2.out.1.size _⟩
          rw [HK2.out.2, valid_good hbad]
        case measure => simp [intOf]; omega
    · have hvv := HK.out.1
      rw [List.drop_of_length_le (by omega)] at hvv
      have : v = true := hvv
      subst this
      go_wp2
      go_ret
      exact ⟨rfl, HK.out.2⟩
end Go.Proofs.Ytegamojidckmcaa
