/- The document's own answers of chapter 3. -/
import Derived.Test.YtegamojidckmcaaSpSort
import Derived.ArgAppend
namespace Go.Proofs.Ytegamojidckmcaa
open Go.RowKit
set_option linter.unusedVariables false

set_option maxHeartbeats 2000000 in
theorem refValid_any (A : Option Addr) (m c : Nat) (l : List Sp) (n : Int) (w : World) (hl : l.length = m) (hmc : m ≤ c) (hc : c ≤ 9223372036854775807) (h64 : All64 l) (hr : RdS w A l) (hn : -9223372036854775808 ≤ n ∧ n ≤ 9223372036854775807) :
    Calls Try.prog 20 #[.int .i64 n, .slice A m c] w fun e w' => e = .returned (.bool (validF n 0 l)) ∧ Below w.heap.size w w' := by
  subst hl
  have HR := Lib.hid hr
  have H64 := Lib.hid h64
  obtain ⟨v, hv⟩ : ∃ v, v = validF n 0 l := ⟨_, rfl⟩
  rw [← hv]
  have HV := Lib.hid hv
  clear hr h64 hv
  obtain ⟨hn1, hn2⟩ := hn
  go_enter Try.func20, Try.ntmps20
  go_wp2
  go_loopw [5, 9] (fun e i W => ∃ (k : Nat) (z : Int), k ≤ l.length ∧ i = .int .i64 (k : Int) ∧ e = .int .i64 z ∧ -9223372036854775808 ≤ z ∧ z ≤ 9223372036854775807 ∧ Hid (v = validF n z (l.drop k) ∧ Below w.heap.size w W)) (fun _ i _ => l.length - (intOf i).toNat)
  case atStart => exact ⟨0, 0, by omega, rfl, rfl, by omega, by omega, by rw [List.drop_zero]; exact HV.out, Below.refl _ _⟩
  case round =>
    obtain ⟨k, z, hk, rfl, rfl, hz1, hz2, HK⟩ := hrel
    by_cases hlt : k < l.length
    · obtain ⟨b, off, rfl, hbl, hcell⟩ := (HR.out.below HK.out.2).addr (by omega)
      obtain ⟨c0, c1, c2⟩ := hcell k hlt
      have hx := H64.out _ (spAt_mem hlt)
      have hd := drop_cons hlt
      generalize spAt l k = x at *
      obtain ⟨hx1, hx2, hx3, hx4, hx5⟩ := hx
      have hb2 := HK.out.2
      have hv2 := HK.out.1
      rw [hd] at hv2
      have HK2 := Lib.hid (And.intro hb2 hv2)
      clear hb2 hv2 HK hcell hd HR
      have dk : (k : Int) < (l.length : Int) := by omega
      by_cases hbad : x.f < z ∨ x.t < x.f ∨ n < x.t
      · have hvv := HK2.out.2
        rw [valid_bad hbad] at hvv
        subst hvv
        by_cases h1 : x.f < z
        · clear hbad
          go_wp2_with fail
          go_quiet (fail)
          go_wp2
          go_ret
          exact ⟨rfl, below_draws HK2.out.1 _⟩
        · have d1 : decide (x.f < z) = false := decide_eq_false h1
          by_cases h2 : x.t < x.f
          · clear hbad
            go_wp2_with fail
            go_quiet (fail)
            go_wp2
            go_ret
            exact ⟨rfl, below_draws HK2.out.1 _⟩
          · have d2 : decide (x.t < x.f) = false := decide_eq_false h2
            have h3 : n < x.t := by omega
            clear hbad
            go_wp2_with fail
            go_quiet (fail)
            go_wp2
            go_ret
            exact ⟨rfl, below_draws HK2.out.1 _⟩
      · have d1 : decide (x.f < z) = false := decide_eq_false (by omega)
        have d2 : decide (x.t < x.f) = false := decide_eq_false (by omega)
        have d3 : decide (n < x.t) = false := decide_eq_false (by omega)
        go_wp2_with fail
        go_quiet (fail)
        go_wp2
        go_roundw
        case rel =>
          refine ⟨k + 1, x.t, by omega, by go_num, rfl, hx3, hx4, ?_, below_draws HK2.out.1 _⟩
          rw [HK2.out.2, valid_good hbad]
        case measure => simp [intOf]; omega
    · have hvv := HK.out.1
      rw [List.drop_of_length_le (by omega)] at hvv
      have : v = true := hvv
      subst this
      go_wp2
      go_ret
      exact ⟨rfl, HK.out.2⟩

set_option maxHeartbeats 2000000 in
theorem refMap_any (B : Option Addr) (m d : Nat) (l : List Sp) (o : Int) (n : Nat) (w : World) (hm : l.length = m) (hmd : m ≤ d) (hd : d ≤ 9223372036854775807) (hr : RdS w B l) (hn : n ≤ 1000) (hm6 : m ≤ 6) (htx : ∀ x ∈ l, x.s.size ≤ 20) (hv : validF n 0 l = true) (ho : 0 ≤ o) (ho2 : o ≤ 1000000) :
    Calls Try.prog 25 #[.int .i64 o, .slice B m d] w (MapP w (refMapF o 0 l)) := by
  subst hm
  have HR := Lib.hid hr
  have HV := Lib.hid hv
  have HTX := Lib.hid htx
  obtain ⟨r, hres⟩ : ∃ r, r = refMapF o 0 l := ⟨_, rfl⟩
  rw [← hres]
  have HRES := Lib.hid hres
  clear hr hv htx hres
  go_enter Try.func25, Try.ntmps25
  go_wp2_with fail
  go_loopw [6, 10] (fun s i W => ∃ (k : Nat) (z : Int), k ≤ l.length ∧ i = .int .i64 (k : Int) ∧ s = .int .i64 z ∧ -(1000 * k) ≤ z ∧ z ≤ 20 * k ∧ Hid (r = refMapF o z (l.drop k) ∧ Below w.heap.size w W)) (fun _ i _ => l.length - (intOf i).toNat)
  case atStart => exact ⟨0, 0, by omega, rfl, rfl, by omega, by omega, HRES.out, Below.refl _ _⟩
  case round =>
    obtain ⟨k, z, hk, rfl, rfl, hz1, hz2, HK⟩ := hrel
    obtain ⟨wo, hwo⟩ : ∃ x, x = wr := ⟨_, rfl⟩
    subst hwo
    by_cases hlt : k < l.length
    · obtain ⟨b, off, rfl, hbl, hcell⟩ := (HR.out.below HK.out.2).addr (by omega)
      obtain ⟨c0, c1, c2⟩ := hcell k hlt
      have hvx := valid_mem HV.out _ (spAt_mem hlt)
      have htx := HTX.out _ (spAt_mem hlt)
      have hmp := HK.out.1
      rw [drop_cons hlt] at hmp
      generalize spAt l k = x at *
      obtain ⟨hv1, hv2, hv3⟩ := hvx
      have HBW := Lib.hid HK.out.2
      clear hcell HK
      unfold refMapF at hmp
      unfold grw at hmp
      have dk : (k : Int) < (l.length : Int) := by omega
      by_cases h1 : x.f ≤ o
      · by_cases h2 : o < x.t
        · rw [if_pos ⟨h1, h2⟩] at hmp
          subst hmp
          go_wp2
          go_ret2
          exact ⟨by simp [mapE], HBW.out⟩
        · have d2 : decide (o < x.t) = false := decide_eq_false h2
          have d3 : x.t ≤ o := by omega
          rw [if_neg (by omega), if_pos d3] at hmp
          have HMP := Lib.hid hmp
          clear hmp
          go_wp2_with fail
          go_quiet (fail)
          go_wp2
          go_roundw
          case rel => exact ⟨k + 1, _, by omega, by go_num, rfl, by omega, by omega, HMP.out, below_draws HBW.out _⟩
          case measure => simp [intOf]; omega
      · have d1 : decide (x.f ≤ o) = false := decide_eq_false h1
        have d3 : decide (x.t ≤ o) = false := decide_eq_false (by omega)
        rw [if_neg (by omega), if_neg (by omega)] at hmp
        have HMP := Lib.hid hmp
        clear hmp
        go_wp2
        go_roundw
        case rel => exact ⟨k + 1, z, by omega, by go_num, rfl, by omega, by omega, HMP.out, HBW.out⟩
        case measure => simp [intOf]; omega
    · have hmp := HK.out.1
      rw [List.drop_of_length_le (by omega)] at hmp
      have hmp' : r = some (o + z) := hmp
      subst hmp'
      have HBW := Lib.hid HK.out.2
      clear hmp HK
      go_wp2
      go_ret2
      exact ⟨by simp [mapE], HBW.out⟩
end Go.Proofs.Ytegamojidckmcaa
