/- lineFrom: one line; Split: all of them, in memory of the call's own. -/
import Derived.Test.YtodnfdkcmhiljaaLnLeaf
namespace Go.Proofs.Ytodnfdkcmhiljaa
open Go.RowKit
set_option linter.unusedVariables false

def lnV (l : Ln) : Value := .agg #[.int .i64 (l.f : Int), .int .i64 (l.t : Int), .int .i64 (l.n : Int)]
def LnP (w : World) (l : Ln) (e : Ending) (w' : World) : Prop := e = .returned (lnV l) ∧ Below w.heap.size w w'

theorem ixI_drop (zs : List Int) (a : Nat) (ha : a ≤ zs.length) : ixI (zs.drop a) = if a + nl zs a < zs.length then (nl zs a : Int) else -1 := by
  unfold ixI nl
  rw [List.length_drop]
  by_cases h : (zs.drop a).findIdx (· == 10) < zs.length - a
  · rw [if_pos h, if_pos (by omega)]
  · rw [if_neg h, if_neg (by omega)]

set_option maxHeartbeats 1000000 in
theorem lineFrom_none (A : Option Addr) (n c : Nat) (zs : List Int) (w : World) (a : Nat) (hl : zs.length = n) (hnc : n ≤ c) (hm : c ≤ 9223372036854775807) (hb : Byte zs) (hr : RdB w A zs) (hA : A = none → c = 0) (ha : a ≤ n)
    (hno : ¬ a + nl zs a < n) :
    Calls Try.prog 32 #[.slice A n c, .int .i64 (a : Int)] w (LnP w ⟨a, n, n⟩) := by
  have hix : ixI (zs.drop a) = -1 := by rw [ixI_drop zs a (by omega), if_neg (by omega)]
  have HIX := Lib.hid hix
  have HR := Lib.hid hr
  have HB := Lib.hid hb
  have HL := Lib.hid hl
  clear hix hr hb hl hno
  have hd : (zs.drop a).length = n - a := by rw [List.length_drop, HL.out]
  have HD := Lib.hid hd
  clear hd
  cases A with
  | none =>
    obtain rfl : c = 0 := hA rfl
    obtain rfl : n = 0 := by omega
    obtain rfl : a = 0 := by omega
    clear hA
    go_enter Try.func32, Try.ntmps32
    go_wp2_with (go_at_call 50; refine (indexByte_any none 0 0 (zs.drop 0) _ HD.out (HB.out.drop 0) (by rw [List.eq_nil_of_length_eq_zero HD.out]; exact RdB.nil _ _) (-1) HIX.out).mono ?_; rintro e w' ⟨rfl, rfl⟩)
    exact bodyPost_ret (v := lnV ⟨0, 0, 0⟩) (by simp [results, Try.results32, go_sem, lnV]) rfl ⟨rfl, (Below.refl _ _).alloc (Nat.le_refl _) _⟩
  | some ad =>
    clear hA
    by_cases hca : a < c
    · have hrd : ∀ W, Below w.heap.size w W → RdB W (some (ad.add a)) (zs.drop a) := by
        intro W hW
        by_cases h0 : zs = []
        · subst h0; simp; exact RdB.nil _ _
        · obtain ⟨b, off, e, _⟩ := HR.out.addr (List.length_pos_iff.2 h0)
          injection e with e; subst e
          rw [add_plain]
          exact (HR.out.below hW).drop a
      have HRD := Lib.hid hrd
      clear hrd
      go_enter Try.func32, Try.ntmps32
      go_wp2_with (go_at_call 50; refine (indexByte_any _ (n - a) (c - a) (zs.drop a) _ HD.out (HB.out.drop a) (HRD.out _ ((Below.refl _ _).alloc (Nat.le_refl _) _)) (-1) HIX.out).mono ?_; rintro e w' ⟨rfl, rfl⟩)
      exact bodyPost_ret (v := lnV ⟨a, n, n⟩) (by simp [results, Try.results32, go_sem, lnV]) rfl ⟨rfl, (Below.refl _ _).alloc (Nat.le_refl _) _⟩
    · obtain rfl : c = a := by omega
      obtain rfl : n = c := by omega
      have h0 : zs.drop n = [] := List.eq_nil_of_length_eq_zero (by rw [HD.out]; omega)
      rw [h0] at HIX HD
      have e0 : n - n = 0 := by omega
      go_enter Try.func32, Try.ntmps32
      go_wp2_with (go_at_call 50; refine (indexByte_any _ 0 0 [] _ rfl (fun z hz => by simp at hz) (RdB.nil _ _) (-1) HIX.out).mono ?_; rintro e w' ⟨rfl, rfl⟩)
      exact bodyPost_ret (v := lnV ⟨n, n, n⟩) (by simp [results, Try.results32, go_sem, lnV]) rfl ⟨rfl, (Below.refl _ _).alloc (Nat.le_refl _) _⟩

set_option maxHeartbeats 1000000 in
theorem lineFrom_some (b off : Nat) (n c : Nat) (zs : List Int) (w : World) (a : Nat) (hl : zs.length = n) (hnc : n ≤ c) (hm : c ≤ 9223372036854775807) (hb : Byte zs) (hr : RdB w (some ⟨b, off, none⟩) zs) (ha : a ≤ n)
    (hno : a + nl zs a < n) :
    Calls Try.prog 32 #[.slice (some ⟨b, off, none⟩) n c, .int .i64 (a : Int)] w (LnP w (lnF zs a)) := by
  have hix : ixI (zs.drop a) = (nl zs a : Int) := by rw [ixI_drop zs a (by omega), if_pos (by omega)]
  have HIX := Lib.hid hix
  have HR := Lib.hid hr
  have HB := Lib.hid hb
  have HL := Lib.hid hl
  clear hix hb hl
  have hd : (zs.drop a).length = n - a := by rw [List.length_drop, HL.out]
  have HD := Lib.hid hd
  clear hd
  have hln : lnF zs a = ⟨a, if 0 < nl zs a ∧ zs.getD (a + nl zs a - 1) 0 = 13 then a + nl zs a - 1 else a + nl zs a, a + nl zs a + 1⟩ := by
    unfold lnF; rw [if_pos (by rw [HL.out]; exact hno)]
  rw [hln]
  clear hln
  generalize nl zs a = j at *
  by_cases h0 : 0 < j
  · obtain ⟨b', off', e, hc⟩ := hr.addr (by rw [HL.out]; omega)
    injection e with e; injection e with e1 e2; subst e1 e2
    have hc1 := hc (a + j - 1) (by rw [HL.out]; omega)
    have hbl : b < w.heap.size := World.block_lt_of_cell? _ _ hc1
    clear hc hr
    generalize zs.getD (a + j - 1) 0 = z at *
    have d0 : (0 : Int) < (j : Int) := by omega
    by_cases h13 : z = 13
    · subst h13
      rw [if_pos ⟨h0, rfl⟩]
      have e1 : ((a : Int) + (j : Int) - 1).toNat = a + j - 1 := by omega
      have hlt : (a : Int) + (j : Int) - 1 < (n : Int) := by omega
      have hge : 0 ≤ (a : Int) + (j : Int) - 1 := by omega
      have hge' : 1 ≤ (a : Int) + (j : Int) := by omega
      go_enter Try.func32, Try.ntmps32
      go_wp2_with (go_at_call 50; refine (indexByte_any _ (n - a) (c - a) (zs.drop a) _ HD.out (HB.out.drop a) ((HR.out.below ((Below.refl _ _).alloc (Nat.le_refl _) _)).drop a) (j : Int) HIX.out).mono ?_; rintro e w' ⟨rfl, rfl⟩)
      exact bodyPost_ret (v := lnV ⟨a, a + j - 1, a + j + 1⟩) (by simp [results, Try.results32, go_sem, lnV]; omega) rfl ⟨rfl, (Below.refl _ _).alloc (Nat.le_refl _) _⟩
    · rw [if_neg (by omega)]
      have hz : (z == 13) = false := beq_eq_false_iff_ne.2 h13
      have e1 : ((a : Int) + (j : Int) - 1).toNat = a + j - 1 := by omega
      have hlt : (a : Int) + (j : Int) - 1 < (n : Int) := by omega
      have hge : 0 ≤ (a : Int) + (j : Int) - 1 := by omega
      have hge' : 1 ≤ (a : Int) + (j : Int) := by omega
      clear h13
      go_enter Try.func32, Try.ntmps32
      go_wp2_with (go_at_call 50; refine (indexByte_any _ (n - a) (c - a) (zs.drop a) _ HD.out (HB.out.drop a) ((HR.out.below ((Below.refl _ _).alloc (Nat.le_refl _) _)).drop a) (j : Int) HIX.out).mono ?_; rintro e w' ⟨rfl, rfl⟩)
      exact bodyPost_ret (v := lnV ⟨a, a + j, a + j + 1⟩) (by simp [results, Try.results32, go_sem, lnV]) rfl ⟨rfl, (Below.refl _ _).alloc (Nat.le_refl _) _⟩
  · obtain rfl : j = 0 := by omega
    rw [if_neg (by omega)]
    clear hr
    go_enter Try.func32, Try.ntmps32
    go_wp2_with (go_at_call 50; refine (indexByte_any _ (n - a) (c - a) (zs.drop a) _ HD.out (HB.out.drop a) ((HR.out.below ((Below.refl _ _).alloc (Nat.le_refl _) _)).drop a) (0 : Int) HIX.out).mono ?_; rintro e w' ⟨rfl, rfl⟩)
    exact bodyPost_ret (v := lnV ⟨a, a + 0, a + 0 + 1⟩) (by simp [results, Try.results32, go_sem, lnV]) rfl ⟨rfl, (Below.refl _ _).alloc (Nat.le_refl _) _⟩

theorem lineFrom_any (A : Option Addr) (n c : Nat) (zs : List Int) (w : World) (a : Nat) (hl : zs.length = n) (hnc : n ≤ c) (hm : c ≤ 9223372036854775807) (hb : Byte zs) (hr : RdB w A zs) (hA : A = none → c = 0) (ha : a ≤ n) :
    Calls Try.prog 32 #[.slice A n c, .int .i64 (a : Int)] w (LnP w (lnF zs a)) := by
  by_cases h : a + nl zs a < n
  · obtain ⟨b, off, rfl, _⟩ := hr.addr (by omega)
    exact lineFrom_some b off n c zs w a hl hnc hm hb hr ha h
  · have : lnF zs a = ⟨a, n, n⟩ := by unfold lnF; rw [if_neg (by rw [hl]; exact h), hl]
    rw [this]
    exact lineFrom_none A n c zs w a hl hnc hm hb hr hA ha h
end Go.Proofs.Ytodnfdkcmhiljaa
