/- Do beyond the limit; Map; the document's example; splices of raw ones. -/
import Derived.Test.YtegamojidckmcaaSpDo
import Derived.Deep.RegionHeld3
import Derived.StillTailTactics
namespace Go.Proofs.Ytegamojidckmcaa
open Go.RowKit
set_option linter.unusedVariables false

set_option maxHeartbeats 4000000 in
theorem do_limit (A : Option Addr) (n c : Nat) (B : Option Addr) (m d : Nat) (l : List Sp) (w : World) 
    (hn : n ≤ 1000000000) (hm : l.length = m) (hmd : m ≤ d) (hd : d ≤ 9223372036854775807) (h64 : All64 l) (hr : RdS w B l) (hm6 : m ≤ 1000000) (htx : Texts l) (hv : validF n 0 l = true) (hsz : 65536 < (n : Int) + sumG l) :
    Calls Try.prog 10 #[.slice A n c, .slice B m d] w fun e w' => e = .returned (.tuple #[.slice none 0 0, .int .i64 10]) ∧ Below w.heap.size w w' := by
  subst hm
  have HBD := Lib.hid (size_bd hn hm6 hv htx)
  have HR := Lib.hid hr
  have H64 := Lib.hid h64
  have HV := Lib.hid hv
  have HTX := Lib.hid htx
  have HSZ := Lib.hid hsz
  clear hr h64 hv htx hsz
  go_enter Try.func10, Try.ntmps10
  go_wp2_with fail
  refine (valid_any B l.length d l n w rfl hmd hd H64.out HR.out (by omega)).mono ?_
  rw [HV.out]
  rintro e w1 ⟨rfl, hb⟩
  have HB := Lib.hid hb
  clear hb
  go_wp2_with fail
  go_loopw [6, 22] (fun s i W => ∃ (k : Nat) (z : Int), k ≤ l.length ∧ i = .int .i64 (k : Int) ∧ s = .int .i64 z ∧ Hid (z = n + sumG (l.take k) ∧ Below w.heap.size w W)) (fun _ i _ => l.length - (intOf i).toNat)
  case atStart => exact ⟨0, n, by omega, rfl, rfl, by simp [sumG], HB.out⟩
  case round =>
    obtain ⟨k, z, hk, rfl, rfl, HK⟩ := hrel
    obtain ⟨wo, hwo⟩ : ∃ x, x = wr := ⟨_, rfl⟩
    subst hwo
    have hbk := HBD.out k
    have hbk1 := HBD.out (k + 1)
    by_cases hlt : k < l.length
    · obtain ⟨b, off, rfl, hbl, hcell⟩ := (HR.out.below HK.out.2).addr (by omega)
      obtain ⟨c0, c1, c2⟩ := hcell k hlt
      have hvx := valid_mem HV.out _ (spAt_mem hlt)
      have htx := HTX.out _ (spAt_mem hlt)
      have hst := sumG_take hlt
      generalize spAt l k = x at *
      have hgr : grw x = x.s.size - (x.t - x.f) := rfl
      obtain ⟨hv1, hv2, hv3⟩ := hvx
      have hz := HK.out.1
      have hz1 : z + grw x = n + sumG (l.take (k + 1)) := by omega
      have hzb : -2000000000000000 ≤ z ∧ z ≤ 2000000000000000 := by omega
      have hgb : -2000000000000000 ≤ grw x ∧ grw x ≤ 2000000000000000 := by omega
      have HZ1 := Lib.hid hz1
      obtain ⟨hzb1, hzb2⟩ := hzb
      obtain ⟨hgb1, hgb2⟩ := hgb
      have HBW := Lib.hid HK.out.2
      clear hcell hz hz1 hst hgr HK
      go_wp2_with fail
      refine (growth_any x _ hv1 hv2 (by omega) (by omega)).mono ?_
      rintro e w2 ⟨rfl, hb2⟩
      have hb3 := below_step (HBW.out.alloc HBW.out.size _) hb2
      have HB3 := Lib.hid hb3
      clear hb2 hb3
      generalize grw x = g at *
      go_wp2
      go_roundw
      case rel => exact ⟨k + 1, z + g, by omega, by go_num, by go_num, HZ1.out, HB3.out⟩
      case measure => simp [intOf]; omega
    · obtain rfl : k = l.length := by omega
      have hz := HK.out.1
      rw [List.take_length] at hz hbk
      have hsz := HSZ.out
      have hz2 : 65536 < z := by omega
      have hz3 : z ≤ 2000000000000000 := by omega
      have HBW := Lib.hid HK.out.2
      clear hz hsz hbk hbk1 HK HSZ
      go_wp2
      go_ret2
      exact ⟨rfl, HBW.out⟩

def mapE (o : Option Int) : Value := .tuple #[.int .i64 (o.getD 0), .bool o.isSome]
def MapP (w : World) (o : Option Int) (e : Ending) (w' : World) : Prop := e = .returned (mapE o) ∧ Below w.heap.size w w'
set_option maxHeartbeats 2000000 in
theorem map_any (B : Option Addr) (m d : Nat) (l : List Sp) (o : Int) (n : Nat) (w : World) (hm : l.length = m) (hmd : m ≤ d) (hd : d ≤ 9223372036854775807) (hr : RdS w B l) (hn : n ≤ 1000000000) (hm6 : m ≤ 1000000) (htx : Texts l) (hv : validF n 0 l = true) (ho : 0 ≤ o) (ho2 : o ≤ 1000000000) :
    Calls Try.prog 24 #[.int .i64 o, .slice B m d] w (MapP w (mapF o o l)) := by
  subst hm
  have HBD := Lib.hid (size_bd hn hm6 hv htx)
  have HR := Lib.hid hr
  have HV := Lib.hid hv
  have HTX := Lib.hid htx
  obtain ⟨r, hres⟩ : ∃ r, r = mapF o o l := ⟨_, rfl⟩
  rw [← hres]
  have HRES := Lib.hid hres
  clear hr hv htx hres
  go_enter Try.func24, Try.ntmps24
  go_wp2_with fail
  go_loopw [6, 14] (fun s i W => ∃ (k : Nat) (z : Int), k ≤ l.length ∧ i = .int .i64 (k : Int) ∧ s = .int .i64 z ∧ Hid (z = o + sumG (l.take k) ∧ r = mapF o z (l.drop k) ∧ Below w.heap.size w W)) (fun _ i _ => l.length - (intOf i).toNat)
  case atStart => exact ⟨0, o, by omega, rfl, rfl, by simp [sumG], HRES.out, Below.refl _ _⟩
  case round =>
    obtain ⟨k, z, hk, rfl, rfl, HK⟩ := hrel
    obtain ⟨wo, hwo⟩ : ∃ x, x = wr := ⟨_, rfl⟩
    subst hwo
    have hbk := HBD.out k
    have hbk1 := HBD.out (k + 1)
    by_cases hlt : k < l.length
    · obtain ⟨b, off, rfl, hbl, hcell⟩ := (HR.out.below HK.out.2.2).addr (by omega)
      obtain ⟨c0, c1, c2⟩ := hcell k hlt
      have hvx := valid_mem HV.out _ (spAt_mem hlt)
      have htx := HTX.out _ (spAt_mem hlt)
      have hst := sumG_take hlt
      have hmp := HK.out.2.1
      rw [drop_cons hlt] at hmp
      generalize spAt l k = x at *
      have hgr : grw x = x.s.size - (x.t - x.f) := rfl
      obtain ⟨hv1, hv2, hv3⟩ := hvx
      have hz := HK.out.1
      have hz1 : z + grw x = o + sumG (l.take (k + 1)) := by omega
      have hzb : -2000000000000000 ≤ z ∧ z ≤ 2000000000000000 := by omega
      have hgb : -2000000000000000 ≤ grw x ∧ grw x ≤ 2000000000000000 := by omega
      have HZ1 := Lib.hid hz1
      obtain ⟨hzb1, hzb2⟩ := hzb
      obtain ⟨hgb1, hgb2⟩ := hgb
      have HBW := Lib.hid HK.out.2.2
      clear hcell hz hz1 hst hgr HK
      unfold mapF at hmp
      by_cases h1 : o < x.f
      · rw [if_pos h1] at hmp
        subst hmp
        go_wp2
        go_ret2
        exact ⟨by simp [mapE], HBW.out.alloc HBW.out.size _⟩
      · rw [if_neg h1] at hmp
        have d1 : decide (o < x.f) = false := decide_eq_false h1
        by_cases h2 : o < x.t
        · rw [if_pos h2] at hmp
          subst hmp
          go_wp2
          go_ret2
          exact ⟨by simp [mapE], HBW.out.alloc HBW.out.size _⟩
        · rw [if_neg h2] at hmp
          have d2 : decide (o < x.t) = false := decide_eq_false h2
          have HMP := Lib.hid hmp
          clear hmp
          go_wp2_with fail
          refine (growth_any x _ hv1 hv2 (by omega) (by omega)).mono ?_
          rintro e w2 ⟨rfl, hb2⟩
          have hb3 := below_step (HBW.out.alloc HBW.out.size _) hb2
          have HB3 := Lib.hid hb3
          clear hb2 hb3
          generalize grw x = g at *
          go_wp2
          go_roundw
          case rel => exact ⟨k + 1, z + g, by omega, by go_num, by go_num, HZ1.out, HMP.out, HB3.out⟩
          case measure => simp [intOf]; omega
    · have hmp := HK.out.2.1
      rw [List.drop_of_length_le (by omega)] at hmp
      have hmp' : r = some z := hmp
      subst hmp'
      have HBW := Lib.hid HK.out.2.2
      have hz := HK.out.1
      have hzb1 : -2000000000000000 ≤ z := by omega
      have hzb2 : z ≤ 2000000000000000 := by omega
      clear hmp HK hz
      go_wp2
      go_ret2
      exact ⟨by simp [mapE], HBW.out⟩
end Go.Proofs.Ytegamojidckmcaa
