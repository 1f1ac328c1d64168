/- The contracts of package chars' plain calls: lead, surrogate, Space, Digit, Printable, nameByte, Rune. -/
import Derived.Test.YtdjpdcjljpmfnaaDoorBase
import Derived.Test.YtdjpdcjljpmfnaaDoorCharsPure
namespace Go.Proofs.YtdjpdcjljpmfnaaDoor
open Go.RowKit
set_option linter.unusedVariables false

set_option maxHeartbeats 400000 in
theorem lead_any (c : Int) (h0 : 0 ≤ c) (h1 : c < 256) (w : World) :
    Calls Tryd.prog 43 #[.int .u8 c] w fun e w' => e = .returned (.tuple #[.int .i32 (ldR c), .int .i64 (ldN c), .int .i32 (ldL c)]) ∧ w = w' := by
  have H := Lib.hid (and_at c h0 h1)
  go_enter Tryd.func43, Tryd.ntmps43
  go_wp2
  all_goals
    go_ret3
    refine ⟨?_, rfl⟩
    obtain ⟨e1, e2, e3, e4, _⟩ := H.out
    simp only [e1, e2, e3, e4] at *
    unfold ldR ldN ldL
    simp at *
    repeat' split
    all_goals (first | omega | (simp; omega) | simp)
set_option maxHeartbeats 400000 in
theorem surr_any (r : Int) (w : World) :
    Calls Tryd.prog 44 #[.int .i32 r] w fun e w' => e = .returned (.bool (surr r)) ∧ w = w' := by
  unfold surr
  go_enter Tryd.func44, Tryd.ntmps44
  go_wp2
  all_goals (go_ret; refine ⟨ret_bool ?_, rfl⟩; simp_all; try omega)
set_option maxHeartbeats 400000 in
theorem digit_any (c : Int) (w : World) :
    Calls Tryd.prog 82 #[.int .u8 c] w fun e w' => e = .returned (.bool (dgt c)) ∧ w = w' := by
  unfold dgt
  go_enter Tryd.func82, Tryd.ntmps82
  go_wp2
  all_goals (go_ret; refine ⟨ret_bool ?_, rfl⟩; simp_all; try omega)
set_option maxHeartbeats 400000 in
theorem space_any (c : Int) (w : World) :
    Calls Tryd.prog 49 #[.int .u8 c] w fun e w' => e = .returned (.bool (spc c)) ∧ w = w' := by
  unfold spc
  go_enter Tryd.func49, Tryd.ntmps49
  go_wp2
  all_goals (go_ret; exact ⟨rfl, rfl⟩)
set_option maxHeartbeats 400000 in
theorem prt_any (r : Int) (w : World) :
    Calls Tryd.prog 45 #[.int .i32 r] w fun e w' => e = .returned (.bool (prt r)) ∧ w = w' := by
  go_enter Tryd.func45, Tryd.ntmps45
  go_wp2_with (go_at_call 44; refine (surr_any _ _).mono ?_; rintro e w' ⟨rfl, rfl⟩)
  all_goals
    go_ret
    refine ⟨ret_bool ?_, rfl⟩
    simp only [prt]
    simp at *
    repeat' split
    all_goals (first | rfl | omega | (simp_all; done) | (simp_all; omega))
theorem RdB.cons {w : World} {A : Option Addr} {c : Int} {t : List Int} (h : RdB w A (c :: t)) :
    ∃ b off, A = some ⟨b, off, none⟩ ∧ ∀ k z, (c :: t)[k]? = some z → w.cell? ⟨b, off + k, none⟩ = some (.int .u8 z) := by
  obtain ⟨b, off, rfl, _⟩ := h 0 c rfl
  refine ⟨b, off, rfl, fun k z hz => ?_⟩
  obtain ⟨b', off', e, hc⟩ := h k z hz
  injection e with e
  injection e with e1 e2
  subst e1 e2
  exact hc

theorem runeF_short (c : Int) (t : List Int) (h : ldN c = 0 ∨ ((c :: t).length : Int) < ldN c) : runeF (c :: t) = (0, 1, false) := by
  simp only [runeF]; rw [if_pos h]
theorem runeF_none (c : Int) (t : List Int) (h1 : 1 ≤ ldN c) (h2 : ldN c ≤ ((c :: t).length : Int)) (h : accR (ldR c) (t.take (ldN c - 1).toNat) = none) : runeF (c :: t) = (0, 1, false) := by
  simp only [runeF]; rw [if_neg (by omega), h]
theorem runeF_bad (c : Int) (t : List Int) (h1 : 1 ≤ ldN c) (h2 : ldN c ≤ ((c :: t).length : Int)) (r : Int) (h : accR (ldR c) (t.take (ldN c - 1).toNat) = some r) (hb : r < ldL c ∨ 1114111 < r ∨ surr r = true) : runeF (c :: t) = (0, 1, false) := by
  simp only [runeF]; rw [if_neg (by omega), h]; simp only []; rw [if_pos hb]
theorem runeF_good (c : Int) (t : List Int) (h1 : 1 ≤ ldN c) (h2 : ldN c ≤ ((c :: t).length : Int)) (r : Int) (h : accR (ldR c) (t.take (ldN c - 1).toNat) = some r) (hb : ¬ (r < ldL c ∨ 1114111 < r ∨ surr r = true)) : runeF (c :: t) = (r, ldN c, true) := by
  simp only [runeF]; rw [if_neg (by omega), h]; simp only []; rw [if_neg hb]

def retRune (p : Int × Int × Bool) : Ending := .returned (.tuple #[.int .i32 p.1, .int .i64 p.2.1, .bool p.2.2])

theorem acc_step (c0 : Int) (h0 : 0 ≤ c0) (t : List Int) (k : Nat) (z R : Int) (hz : t[k]? = some z) (hR : accR (ldR c0) (t.take k) = some R) :
    accR (ldR c0) (t.take (k + 1)) = if cont z then some (R * 64 + z % 64) else none := by
  rw [List.take_add_one, hz]
  simp only [Option.toList_some, accR_snoc, hR]

theorem acc_stop (c0 : Int) (t : List Int) (k m : Nat) (hk : k ≤ m) (h : accR (ldR c0) (t.take k) = none) : accR (ldR c0) (t.take m) = none := by
  have e : t.take m = t.take k ++ (t.drop k).take (m - k) := by
    rw [show m = k + (m - k) by omega, List.take_add]; simp
  rw [e]; exact accR_none _ _ _ h

theorem runeF_n (zs : List Int) (h : zs ≠ []) : 1 ≤ (runeF zs).2.1 ∧ (runeF zs).2.1 ≤ zs.length ∧ (runeF zs).2.1 ≤ 4 := by
  cases zs with
  | nil => exact absurd rfl h
  | cons c t =>
    have h4 : ldN c ≤ 4 := by rcases ldN_cases c with e | e | e | e | e <;> omega
    have h0 : ldN c ≠ 0 → 1 ≤ ldN c := by rcases ldN_cases c with e | e | e | e | e <;> omega
    simp only [runeF]
    split
    · simp; omega
    · rename_i hs
      split
      · simp; omega
      · split
        · simp; omega
        · refine ⟨?_, ?_, ?_⟩ <;> simp only [] <;> omega

theorem runeF_ascii (c : Int) (t : List Int) (h0 : 0 ≤ c) (h : c < 128) : runeF (c :: t) = (c, 1, true) := by
  have hN : ldN c = 1 := by unfold ldN; rw [if_pos h]
  have := runeF_good c t (by omega) (by simp; omega) c (by rw [hN]; simp [accR, ldR, h]) (by
    have hL : ldL c = 0 := by unfold ldL; rw [if_pos h]
    have hs : surr c = false := by unfold surr; rw [decide_eq_false (by omega)]; rfl
    rw [hL, hs]; simp; omega)
  rw [this, hN]

set_option maxHeartbeats 1000000 in
theorem rune_short (b off : Nat) (c : Int) (n cap : Nat) (w : World) (h0 : 0 ≤ c) (h1 : c < 256) (hn : 1 ≤ n) (hnc : n ≤ cap) (hm : cap ≤ 9223372036854775807) (hN : ldN c = 0 ∨ (n : Int) < ldN c) (hc : w.cell? ⟨b, off, none⟩ = some (.int .u8 c)) :
    Calls Tryd.prog 23 #[.slice (some ⟨b, off, none⟩) n cap] w fun e w' => e = retRune (0, 1, false) ∧ w = w' := by
  have d : (0 : Int) < (n : Int) := by omega
  have d0 : ((n : Int) == 0) = false := beq_eq_false_iff_ne.2 (by omega)
  by_cases hz : ldN c = 0
  · have e0 : (ldN c == 0) = true := beq_iff_eq.2 hz
    clear hN hz
    go_enter Tryd.func23, Tryd.ntmps23
    go_wp2_with (go_at_call 43; refine (lead_any _ (by omega) (by omega) _).mono ?_; rintro e w' ⟨rfl, rfl⟩)
    go_ret3
    exact ⟨rfl, rfl⟩
  · have e0 : (ldN c == 0) = false := beq_eq_false_iff_ne.2 hz
    have e1 : (n : Int) < ldN c := by omega
    clear hN hz
    go_enter Tryd.func23, Tryd.ntmps23
    go_wp2_with (go_at_call 43; refine (lead_any _ (by omega) (by omega) _).mono ?_; rintro e w' ⟨rfl, rfl⟩)
    go_ret3
    exact ⟨rfl, rfl⟩

set_option maxHeartbeats 1000000 in
theorem rune_long (b off : Nat) (c : Int) (t : List Int) (n cap : Nat) (w : World) (h0 : 0 ≤ c) (h1 : c < 256) (hb : Byte t) (hn : n = t.length + 1) (hnc : n ≤ cap) (hcap : 2 ≤ cap) (hm : cap ≤ 9223372036854775807)
    (hN1 : 1 ≤ ldN c) (hN2 : ldN c ≤ (n : Int)) (hc : ∀ k z, (c :: t)[k]? = some z → w.cell? ⟨b, off + k, none⟩ = some (.int .u8 z)) :
    Calls Tryd.prog 23 #[.slice (some ⟨b, off, none⟩) n cap] w fun e w' => e = retRune (runeF (c :: t)) ∧ w = w' := by
  obtain ⟨m, hm0⟩ : ∃ m : Nat, ldN c = (m : Int) + 1 := ⟨(ldN c - 1).toNat, by omega⟩
  have hlen : ((c :: t).length : Int) = n := by simp; omega
  have hN2' : ldN c ≤ ((c :: t).length : Int) := by omega
  have htk : (ldN c - 1).toNat = m := by omega
  have rn := runeF_none c t hN1 hN2'
  have rb := runeF_bad c t hN1 hN2'
  have rg := runeF_good c t hN1 hN2'
  rw [htk] at rn rb rg
  have RN := Lib.hid rn
  have RB := Lib.hid rb
  have RG := Lib.hid rg
  have HC := Lib.hid hc
  have HM := Lib.hid hm0
  have hmt : m ≤ t.length := by omega
  have hcell : w.cell? ⟨b, off, none⟩ = some (.int .u8 c) := hc 0 c rfl
  have d : (0 : Int) < (n : Int) := by omega
  have d0 : ((n : Int) == 0) = false := beq_eq_false_iff_ne.2 (by omega)
  have e0 : (ldN c == 0) = false := beq_eq_false_iff_ne.2 (by omega)
  have e1 : decide ((n : Int) < ldN c) = false := decide_eq_false (by omega)
  have hlb := (ldR_bd c h0).1
  have hlb2 := (ldR_bd c h0).2.1
  have hl4 : ldN c ≤ 4 := by rcases ldN_cases c with e | e | e | e | e <;> omega
  have htoN : (ldN c).toNat - 1 = m := by omega
  have HT := Lib.hid htoN
  have hn1 : t.length + 1 ≤ n := by omega
  have hn2 : n ≤ t.length + 1 := by omega
  have HB := Lib.hid hb
  clear rn rb rg hc hm0 hlen htk hn hb
  go_enter Tryd.func23, Tryd.ntmps23
  go_wp2_with (go_at_call 43; refine (lead_any _ (by omega) (by omega) _).mono ?_; rintro e w' ⟨rfl, rfl⟩)

  clear htoN
  go_loop [2, 3, 31] (fun r nn i => ∃ (k : Nat) (R : Int), k ≤ m ∧ i = .int .i64 k ∧ r = .int .i32 R ∧ nn = .int .i64 (ldN c) ∧ Hid (accR (ldR c) (t.take k) = some R)) (fun _ _ i => m - (intOf i).toNat)
  case atStart => exact ⟨0, ldR c, Nat.zero_le _, rfl, rfl, rfl, rfl⟩
  case round =>
    obtain ⟨k, R, hk, rfl, rfl, rfl, HA⟩ := hrel
    by_cases hlt : k < m
    · obtain ⟨z, hz⟩ : ∃ z, t[k]? = some z := ⟨t[k]'(by omega), List.getElem?_eq_getElem (by omega)⟩
      have hzb := HB.out z (List.mem_of_getElem? hz)
      have hzb1 := hzb.1
      have hzb2 := hzb.2
      have hcz : w.cell? ⟨b, off + 1 + k, none⟩ = some (.int .u8 z) := by rw [Nat.add_assoc, Nat.add_comm 1 k]; exact HC.out (k + 1) z hz
      have hroom := acc_room c h0 (t.take k) R HA.out (by have := HM.out; rw [List.length_take]; omega)
      have hr1 := hroom.1
      have hr2 := hroom.2
      have hst := acc_step c h0 t k z R hz HA.out
      cases hct : cont z
      · have hbz : (bits .and .u8 z 192 != 128) = true := by have := and_cont z hzb1 hzb2; rw [hct] at this; simp only [bne, this]; rfl
        have hrf : runeF (c :: t) = (0, 1, false) := RN.out (acc_stop c t (k + 1) m hlt (by rw [hst, hct]; rfl))
        have HRF := Lib.hid hrf
        clear hrf hst hct hroom hzb hz
        go_wp2
        go_ret3
        exact ⟨by rw [HRF.out]; rfl, rfl⟩
      · have hbz : (bits .and .u8 z 192 != 128) = false := by have := and_cont z hzb1 hzb2; rw [hct] at this; simp only [bne, this]; rfl
        have hac : accR (ldR c) (t.take (k + 1)) = some (R * 64 + z % 64) := by rw [hst, hct]; rfl
        have HAC := Lib.hid hac
        clear hac hst hct hroom hzb hz
        go_wp2
        go_round
        case rel => exact ⟨k + 1, _, by omega, by go_num, rfl, rfl, HAC⟩
        case measure => simp [intOf]; omega
    · obtain rfl : m = k := by omega
      have hq := acc_bd c h0 (t.take m) R HA.out (by have := HM.out; rw [List.length_take]; omega)
      have hq1 := hq.1
      have hq2 := hq.2
      clear hq
      go_wp2_with (go_at_call 44; refine (surr_any _ _).mono ?_; rintro e w' ⟨rfl, rfl⟩)
      · go_ret3
        have hrf := RB.out R HA.out (by rename_i h; rcases h with (h | h) | h; exact .inl h; exact .inr (.inl h); exact .inr (.inr h))
        exact ⟨by rw [hrf]; rfl, rfl⟩
      · go_ret3
        have hrf := RG.out R HA.out (by rename_i h; simp only [h.2]; simp; exact h.1)
        exact ⟨by rw [hrf]; rfl, rfl⟩
      · go_ret3
        exact ⟨by rw [RB.out R HA.out (by omega)]; rfl, rfl⟩
      · go_ret3
        exact ⟨by rw [RB.out R HA.out (by omega)]; rfl, rfl⟩

set_option maxHeartbeats 1000000 in
theorem rune_one (b off : Nat) (c : Int) (w : World) (h0 : 0 ≤ c) (h1 : c < 128) (hc : w.cell? ⟨b, off, none⟩ = some (.int .u8 c)) :
    Calls Tryd.prog 23 #[.slice (some ⟨b, off, none⟩) 1 1] w fun e w' => e = retRune (c, 1, true) ∧ w = w' := by
  have hN : ldN c = 1 := by unfold ldN; rw [if_pos h1]
  have hR : ldR c = c := by unfold ldR; rw [if_pos h1]
  have hL : ldL c = 0 := by unfold ldL; rw [if_pos h1]
  have hs : surr c = false := by unfold surr; rw [decide_eq_false (by omega)]; rfl
  go_enter Tryd.func23, Tryd.ntmps23
  go_wp2_with (go_at_call 43; refine (lead_any _ (by omega) (by omega) _).mono ?_; rintro e w' ⟨rfl, rfl⟩)
  go_loop [2, 3, 31] (fun r nn i => i = .int .i64 0 ∧ nn = .int .i64 1 ∧ r = .int .i32 c) (fun _ _ _ => 0)
  case atStart => exact ⟨rfl, rfl, rfl⟩
  case round =>
    obtain ⟨rfl, rfl, rfl⟩ := hrel
    go_wp2_with (go_at_call 44; refine (surr_any _ _).mono ?_; rintro e w' ⟨rfl, rfl⟩)
    go_ret3
    exact ⟨rfl, rfl⟩

set_option maxHeartbeats 1000000 in
theorem rune_nil (A : Option Addr) (cap : Nat) (w : World) :
    Calls Tryd.prog 23 #[.slice A 0 cap] w fun e w' => e = retRune (0, 0, false) ∧ w = w' := by
  go_enter Tryd.func23, Tryd.ntmps23
  go_wp2
  go_ret3
  exact ⟨rfl, rfl⟩

theorem rune_any (A : Option Addr) (n cap : Nat) (zs : List Int) (w : World) (hl : zs.length = n) (hnc : n ≤ cap) (hm : cap ≤ 9223372036854775807) (hb : Byte zs) (hr : RdB w A zs) :
    Calls Tryd.prog 23 #[.slice A n cap] w fun e w' => e = retRune (runeF zs) ∧ w = w' := by
  cases zs with
  | nil =>
    simp at hl; subst hl
    exact rune_nil A cap w
  | cons c t =>
    obtain ⟨b, off, rfl, hc⟩ := hr.cons
    have hcb := hb c (by simp)
    have hbt : Byte t := fun z hz => hb z (by simp [hz])
    have hlen : ((c :: t).length : Int) = n := by omega
    have h0 : w.cell? ⟨b, off, none⟩ = some (.int .u8 c) := hc 0 c rfl
    have hn : n = t.length + 1 := by simpa using hl.symm
    by_cases hs : ldN c = 0 ∨ (n : Int) < ldN c
    · rw [runeF_short c t (by rw [hlen]; exact hs)]
      exact rune_short b off c n cap w hcb.1 hcb.2 (by omega) hnc hm hs h0
    · have h1 : 1 ≤ ldN c := by rcases ldN_cases c with e | e | e | e | e <;> omega
      by_cases hcap : 2 ≤ cap
      · exact rune_long b off c t n cap w hcb.1 hcb.2 hbt hn hnc hcap hm h1 (by omega) hc
      · have : t = [] := List.eq_nil_of_length_eq_zero (by omega)
        subst this
        obtain rfl : n = 1 := by simpa using hn
        obtain rfl : cap = 1 := by omega
        have hN : ldN c = 1 := by omega
        have hc128 : c < 128 := by
          unfold ldN at hN; split at hN
          · assumption
          · repeat' (split at hN)
            all_goals omega
        have hrf : runeF [c] = (c, 1, true) := by
          have := runeF_good c [] (by omega) (by simp; omega) c (by simp [accR, ldR, hc128]) (by
            have hL : ldL c = 0 := by unfold ldL; rw [if_pos hc128]
            have hs : surr c = false := by unfold surr; rw [decide_eq_false (by omega)]; rfl
            rw [hL, hs]; simp; omega)
          rw [this, hN]
        rw [hrf]
        exact rune_one b off c w hcb.1 hc128 h0
theorem rune_at (A : Option Addr) (n cap : Nat) (ys : List Int) (w : World) (r : Int) (j : Int) (ok : Bool) (hl : ys.length = n) (hnc : n ≤ cap) (hm : cap ≤ 9223372036854775807) (hb : Byte ys) (hr : RdB w A ys) (hf : runeF ys = (r, j, ok)) :
    Calls Tryd.prog 23 #[.slice A n cap] w fun e w' => e = .returned (.tuple #[.int .i32 r, .int .i64 j, .bool ok]) ∧ w = w' := by
  have := rune_any A n cap ys w hl hnc hm hb hr
  rw [hf] at this
  exact this
end Go.Proofs.YtdjpdcjljpmfnaaDoor
