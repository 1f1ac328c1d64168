/- Contracts of the functions that read bytes in memory: marked, breaks, Rune, Check. -/
import Derived.Test.YtpcbpblckecfiaaLeaf
namespace Go.Proofs.Ytpcbpblckecfiaa
open Go.RowKit
set_option linter.unusedVariables false

/-- The slice's address A leads to the bytes zs. -/
def RdB (w : World) (A : Option Addr) (zs : List Int) : Prop := ∀ k z, zs[k]? = some z → ∃ b off, A = some ⟨b, off, none⟩ ∧ w.cell? ⟨b, off + k, none⟩ = some (.int .u8 z)
def Byte (zs : List Int) : Prop := ∀ z ∈ zs, 0 ≤ z ∧ z < 256

theorem RdB.cons {w : World} {A : Option Addr} {c : Int} {t : List Int} (h : RdB w A (c :: t)) :
    ∃ b off, A = some ⟨b, off, none⟩ ∧ ∀ k z, (c :: t)[k]? = some z → w.cell? ⟨b, off + k, none⟩ = some (.int .u8 z) := by
  obtain ⟨b, off, rfl, _⟩ := h 0 c rfl
  refine ⟨b, off, rfl, fun k z hz => ?_⟩
  obtain ⟨b', off', e, hc⟩ := h k z hz
  injection e with e
  injection e with e1 e2
  subst e1 e2
  exact hc

theorem runeF_short (c : Int) (t : List Int) (h : ldN c = 0 ∨ ((c :: t).length : Int) < ldN c) : runeF (c :: t) = (0, 1, false) := by
  simp only [runeF]; rw [if_pos h]
theorem runeF_none (c : Int) (t : List Int) (h1 : 1 ≤ ldN c) (h2 : ldN c ≤ ((c :: t).length : Int)) (h : accR (ldR c) (t.take (ldN c - 1).toNat) = none) : runeF (c :: t) = (0, 1, false) := by
  simp only [runeF]; rw [if_neg (by omega), h]
theorem runeF_bad (c : Int) (t : List Int) (h1 : 1 ≤ ldN c) (h2 : ldN c ≤ ((c :: t).length : Int)) (r : Int) (h : accR (ldR c) (t.take (ldN c - 1).toNat) = some r) (hb : r < ldL c ∨ 1114111 < r ∨ surr r = true) : runeF (c :: t) = (0, 1, false) := by
  simp only [runeF]; rw [if_neg (by omega), h]; simp only []; rw [if_pos hb]
theorem runeF_good (c : Int) (t : List Int) (h1 : 1 ≤ ldN c) (h2 : ldN c ≤ ((c :: t).length : Int)) (r : Int) (h : accR (ldR c) (t.take (ldN c - 1).toNat) = some r) (hb : ¬ (r < ldL c ∨ 1114111 < r ∨ surr r = true)) : runeF (c :: t) = (r, ldN c, true) := by
  simp only [runeF]; rw [if_neg (by omega), h]; simp only []; rw [if_neg hb]

def retRune (p : Int × Int × Bool) : Ending := .returned (.tuple #[.int .i32 p.1, .int .i64 p.2.1, .bool p.2.2])

set_option maxHeartbeats 1000000 in
theorem rune_short (b off : Nat) (c : Int) (n cap : Nat) (w : World) (h0 : 0 ≤ c) (h1 : c < 256) (hn : 1 ≤ n) (hnc : n ≤ cap) (hm : cap ≤ 9223372036854775807) (hN : ldN c = 0 ∨ (n : Int) < ldN c) (hc : w.cell? ⟨b, off, none⟩ = some (.int .u8 c)) :
    Calls Try.prog 14 #[.slice (some ⟨b, off, none⟩) n cap] w fun e w' => e = retRune (0, 1, false) ∧ w = w' := by
  have d : (0 : Int) < (n : Int) := by omega
  have d0 : ((n : Int) == 0) = false := beq_eq_false_iff_ne.2 (by omega)
  by_cases hz : ldN c = 0
  · have e0 : (ldN c == 0) = true := beq_iff_eq.2 hz
    clear hN hz
    go_enter Try.func14, Try.ntmps14
    go_wp2_with (go_at_call 28; refine (lead_any _ (by omega) (by omega) _).mono ?_; rintro e w' ⟨rfl, rfl⟩)
    go_ret3
    exact ⟨rfl, rfl⟩
  · have e0 : (ldN c == 0) = false := beq_eq_false_iff_ne.2 hz
    have e1 : (n : Int) < ldN c := by omega
    clear hN hz
    go_enter Try.func14, Try.ntmps14
    go_wp2_with (go_at_call 28; refine (lead_any _ (by omega) (by omega) _).mono ?_; rintro e w' ⟨rfl, rfl⟩)
    go_ret3
    exact ⟨rfl, rfl⟩

theorem acc_step (c0 : Int) (h0 : 0 ≤ c0) (t : List Int) (k : Nat) (z R : Int) (hz : t[k]? = some z) (hR : accR (ldR c0) (t.take k) = some R) :
    accR (ldR c0) (t.take (k + 1)) = if cont z then some (R * 64 + z % 64) else none := by
  rw [List.take_add_one, hz]
  simp only [Option.toList_some, accR_snoc, hR]

theorem acc_stop (c0 : Int) (t : List Int) (k m : Nat) (hk : k ≤ m) (h : accR (ldR c0) (t.take k) = none) : accR (ldR c0) (t.take m) = none := by
  have e : t.take m = t.take k ++ (t.drop k).take (m - k) := by
    rw [show m = k + (m - k) by omega, List.take_add]; simp
  rw [e]; exact accR_none _ _ _ h

set_option maxHeartbeats 1000000 in
theorem rune_long (b off : Nat) (c : Int) (t : List Int) (n cap : Nat) (w : World) (h0 : 0 ≤ c) (h1 : c < 256) (hb : Byte t) (hn : n = t.length + 1) (hnc : n ≤ cap) (hcap : 2 ≤ cap) (hm : cap ≤ 9223372036854775807)
    (hN1 : 1 ≤ ldN c) (hN2 : ldN c ≤ (n : Int)) (hc : ∀ k z, (c :: t)[k]? = some z → w.cell? ⟨b, off + k, none⟩ = some (.int .u8 z)) :
    Calls Try.prog 14 #[.slice (some ⟨b, off, none⟩) n cap] w fun e w' => e = retRune (runeF (c :: t)) ∧ w = w' := by
  obtain ⟨m, hm0⟩ : ∃ m : Nat, ldN c = (m : Int) + 1 := ⟨(ldN c - 1).toNat, by omega⟩
  have hlen : ((c :: t).length : Int) = n := by simp; omega
  have hN2' : ldN c ≤ ((c :: t).length : Int) := by omega
  have htk : (ldN c - 1).toNat = m := by omega
  have rn := runeF_none c t hN1 hN2'
  have rb := runeF_bad c t hN1 hN2'
  have rg := runeF_good c t hN1 hN2'
  rw [htk] at rn rb rg
  have RN := Lib.hid rn
  have RB := Lib.hid rb
  have RG := Lib.hid rg
  have HC := Lib.hid hc
  have HM := Lib.hid hm0
  have hmt : m ≤ t.length := by omega
  have hcell : w.cell? ⟨b, off, none⟩ = some (.int .u8 c) := hc 0 c rfl
  have d : (0 : Int) < (n : Int) := by omega
  have d0 : ((n : Int) == 0) = false := beq_eq_false_iff_ne.2 (by omega)
  have e0 : (ldN c == 0) = false := beq_eq_false_iff_ne.2 (by omega)
  have e1 : decide ((n : Int) < ldN c) = false := decide_eq_false (by omega)
  have hlb := (ldR_bd c h0).1
  have hlb2 := (ldR_bd c h0).2.1
  have hl4 : ldN c ≤ 4 := by rcases ldN_cases c with e | e | e | e | e <;> omega
  have htoN : (ldN c).toNat - 1 = m := by omega
  have HT := Lib.hid htoN
  have hn1 : t.length + 1 ≤ n := by omega
  have hn2 : n ≤ t.length + 1 := by omega
  have HB := Lib.hid hb
  clear rn rb rg hc hm0 hlen htk hn hb
  go_enter Try.func14, Try.ntmps14
  go_wp2_with (go_at_call 28; refine (lead_any _ (by omega) (by omega) _).mono ?_; rintro e w' ⟨rfl, rfl⟩)

  clear htoN
  go_loop [2, 3, 31] (fun r nn i => ∃ (k : Nat) (R : Int), k ≤ m ∧ i = .int .i64 k ∧ r = .int .i32 R ∧ nn = .int .i64 (ldN c) ∧ Hid (accR (ldR c) (t.take k) = some R)) (fun _ _ i => m - (intOf i).toNat)
  case atStart => exact ⟨0, ldR c, Nat.zero_le _, rfl, rfl, rfl, rfl⟩
  case round =>
    obtain ⟨k, R, hk, rfl, rfl, rfl, HA⟩ := hrel
    by_cases hlt : k < m
    · obtain ⟨z, hz⟩ : ∃ z, t[k]? = some z := ⟨t[k]'(by omega), List.getElem?_eq_getElem (by omega)⟩
      have hzb := HB.out z (List.mem_of_getElem? hz)
      have hzb1 := hzb.1
      have hzb2 := hzb.2
      have hcz : w.cell? ⟨b, off + 1 + k, none⟩ = some (.int .u8 z) := by rw [Nat.add_assoc, Nat.add_comm 1 k]; exact HC.out (k + 1) z hz
      have hroom := acc_room c h0 (t.take k) R HA.out (by have := HM.out; rw [List.length_take]; omega)
      have hr1 := hroom.1
      have hr2 := hroom.2
      have hst := acc_step c h0 t k z R hz HA.out
      cases hct : cont z
      · have hbz : (bits .and .u8 z 192 != 128) = true := by have := and_cont z hzb1 hzb2; rw [hct] at this; simp only [bne, this]; rfl
        have hrf : runeF (c :: t) = (0, 1, false) := RN.out (acc_stop c t (k + 1) m hlt (by rw [hst, hct]; rfl))
        have HRF := Lib.hid hrf
        clear hrf hst hct hroom hzb hz
        go_wp2
        go_ret3
        exact ⟨by rw [HRF.out]; rfl, rfl⟩
      · have hbz : (bits .and .u8 z 192 != 128) = false := by have := and_cont z hzb1 hzb2; rw [hct] at this; simp only [bne, this]; rfl
        have hac : accR (ldR c) (t.take (k + 1)) = some (R * 64 + z % 64) := by rw [hst, hct]; rfl
        have HAC := Lib.hid hac
        clear hac hst hct hroom hzb hz
        go_wp2
        go_round
        case rel => exact ⟨k + 1, _, by omega, by go_num, rfl, rfl, HAC⟩
        case measure => simp [intOf]; omega
    · obtain rfl : m = k := by omega
      have hq := acc_bd c h0 (t.take m) R HA.out (by have := HM.out; rw [List.length_take]; omega)
      have hq1 := hq.1
      have hq2 := hq.2
      clear hq
      go_wp2_with (go_at_call 27; refine (surr_any _ _).mono ?_; rintro e w' ⟨rfl, rfl⟩)
      · go_ret3
        have hrf := RB.out R HA.out (by rename_i h; rcases h with (h | h) | h; exact .inl h; exact .inr (.inl h); exact .inr (.inr h))
        exact ⟨by rw [hrf]; rfl, rfl⟩
      · go_ret3
        have hrf := RG.out R HA.out (by rename_i h; simp only [h.2]; simp; exact h.1)
        exact ⟨by rw [hrf]; rfl, rfl⟩
      · go_ret3
        exact ⟨by rw [RB.out R HA.out (by omega)]; rfl, rfl⟩
      · go_ret3
        exact ⟨by rw [RB.out R HA.out (by omega)]; rfl, rfl⟩

set_option maxHeartbeats 1000000 in
theorem rune_one (b off : Nat) (c : Int) (w : World) (h0 : 0 ≤ c) (h1 : c < 128) (hc : w.cell? ⟨b, off, none⟩ = some (.int .u8 c)) :
    Calls Try.prog 14 #[.slice (some ⟨b, off, none⟩) 1 1] w fun e w' => e = retRune (c, 1, true) ∧ w = w' := by
  have hN : ldN c = 1 := by unfold ldN; rw [if_pos h1]
  have hR : ldR c = c := by unfold ldR; rw [if_pos h1]
  have hL : ldL c = 0 := by unfold ldL; rw [if_pos h1]
  have hs : surr c = false := by unfold surr; rw [decide_eq_false (by omega)]; rfl
  go_enter Try.func14, Try.ntmps14
  go_wp2_with (go_at_call 28; refine (lead_any _ (by omega) (by omega) _).mono ?_; rintro e w' ⟨rfl, rfl⟩)
  go_loop [2, 3, 31] (fun r nn i => i = .int .i64 0 ∧ nn = .int .i64 1 ∧ r = .int .i32 c) (fun _ _ _ => 0)
  case atStart => exact ⟨rfl, rfl, rfl⟩
  case round =>
    obtain ⟨rfl, rfl, rfl⟩ := hrel
    go_wp2_with (go_at_call 27; refine (surr_any _ _).mono ?_; rintro e w' ⟨rfl, rfl⟩)
    go_ret3
    exact ⟨rfl, rfl⟩

set_option maxHeartbeats 1000000 in
theorem rune_nil (A : Option Addr) (cap : Nat) (w : World) :
    Calls Try.prog 14 #[.slice A 0 cap] w fun e w' => e = retRune (0, 0, false) ∧ w = w' := by
  go_enter Try.func14, Try.ntmps14
  go_wp2
  go_ret3
  exact ⟨rfl, rfl⟩

theorem rune_any (A : Option Addr) (n cap : Nat) (zs : List Int) (w : World) (hl : zs.length = n) (hnc : n ≤ cap) (hm : cap ≤ 9223372036854775807) (hb : Byte zs) (hr : RdB w A zs) :
    Calls Try.prog 14 #[.slice A n cap] w fun e w' => e = retRune (runeF zs) ∧ w = w' := by
  cases zs with
  | nil =>
    simp at hl; subst hl
    exact rune_nil A cap w
  | cons c t =>
    obtain ⟨b, off, rfl, hc⟩ := hr.cons
    have hcb := hb c (by simp)
    have hbt : Byte t := fun z hz => hb z (by simp [hz])
    have hlen : ((c :: t).length : Int) = n := by omega
    have h0 : w.cell? ⟨b, off, none⟩ = some (.int .u8 c) := hc 0 c rfl
    have hn : n = t.length + 1 := by simpa using hl.symm
    by_cases hs : ldN c = 0 ∨ (n : Int) < ldN c
    · rw [runeF_short c t (by rw [hlen]; exact hs)]
      exact rune_short b off c n cap w hcb.1 hcb.2 (by omega) hnc hm hs h0
    · have h1 : 1 ≤ ldN c := by rcases ldN_cases c with e | e | e | e | e <;> omega
      by_cases hcap : 2 ≤ cap
      · exact rune_long b off c t n cap w hcb.1 hcb.2 hbt hn hnc hcap hm h1 (by omega) hc
      · have : t = [] := List.eq_nil_of_length_eq_zero (by omega)
        subst this
        obtain rfl : n = 1 := by simpa using hn
        obtain rfl : cap = 1 := by omega
        have hN : ldN c = 1 := by omega
        have hc128 : c < 128 := by
          unfold ldN at hN; split at hN
          · assumption
          · repeat' (split at hN)
            all_goals omega
        have hrf : runeF [c] = (c, 1, true) := by
          have := runeF_good c [] (by omega) (by simp; omega) c (by simp [accR, ldR, hc128]) (by
            have hL : ldL c = 0 := by unfold ldL; rw [if_pos hc128]
            have hs : surr c = false := by unfold surr; rw [decide_eq_false (by omega)]; rfl
            rw [hL, hs]; simp; omega)
          rw [this, hN]
        rw [hrf]
        exact rune_one b off c w hcb.1 hc128 h0

def brk (zs : List Int) : Bool := decide (1 < zs.length) && zs.getD 1 0 == 10
def mrk (zs : List Int) : Bool := decide (3 ≤ zs.length) && zs.getD 0 0 == 239 && zs.getD 1 0 == 187 && zs.getD 2 0 == 191

theorem getD_at {zs : List Int} {k : Nat} (h : k < zs.length) : zs[k]? = some (zs.getD k 0) := by
  rw [List.getElem?_eq_getElem h]; simp [List.getD, h]

theorem RdB.addr {w : World} {A : Option Addr} {zs : List Int} (h : RdB w A zs) (hl : 0 < zs.length) :
    ∃ b off, A = some ⟨b, off, none⟩ ∧ ∀ k, k < zs.length → w.cell? ⟨b, off + k, none⟩ = some (.int .u8 (zs.getD k 0)) := by
  cases zs with
  | nil => simp at hl
  | cons c t =>
    obtain ⟨b, off, rfl, hc⟩ := h.cons
    exact ⟨b, off, rfl, fun k hk => hc k _ (getD_at hk)⟩

set_option maxHeartbeats 1000000 in
theorem breaks_any (A : Option Addr) (n cap : Nat) (zs : List Int) (w : World) (hl : zs.length = n) (hnc : n ≤ cap) (hm : cap ≤ 9223372036854775807) (hr : RdB w A zs) :
    Calls Try.prog 30 #[.slice A n cap] w fun e w' => e = .returned (.bool (brk zs)) ∧ w = w' := by
  by_cases h1 : 1 < n
  · obtain ⟨b, off, rfl, hc⟩ := hr.addr (by omega)
    have c1 := hc 1 (by omega)
    have d : (1 : Int) < (n : Int) := by omega
    have e : brk zs = (zs.getD 1 0 == 10) := by unfold brk; rw [decide_eq_true (by omega)]; rfl
    rw [e]
    generalize zs.getD 1 0 = x at *
    clear e hc hr hl
    go_enter Try.func30, Try.ntmps30
    go_wp2
    go_ret
    exact ⟨rfl, rfl⟩
  · have d : decide ((1 : Int) < (n : Int)) = false := decide_eq_false (by omega)
    have e : brk zs = false := by unfold brk; rw [decide_eq_false (by omega)]; rfl
    rw [e]
    clear e hr hl
    go_enter Try.func30, Try.ntmps30
    go_wp2
    go_ret
    exact ⟨rfl, rfl⟩

set_option maxHeartbeats 1000000 in
theorem marked_any (A : Option Addr) (n cap : Nat) (zs : List Int) (w : World) (hl : zs.length = n) (hnc : n ≤ cap) (hm : cap ≤ 9223372036854775807) (hr : RdB w A zs) :
    Calls Try.prog 29 #[.slice A n cap] w fun e w' => e = .returned (.bool (mrk zs)) ∧ w = w' := by
  by_cases h1 : 3 ≤ n
  · obtain ⟨b, off, rfl, hc⟩ := hr.addr (by omega)
    have c0 : w.cell? ⟨b, off, none⟩ = some (.int .u8 (zs.getD 0 0)) := hc 0 (by omega)
    have c1 := hc 1 (by omega)
    have c2 := hc 2 (by omega)
    have d : (3 : Int) ≤ (n : Int) := by omega
    have d0 : (0 : Int) < (n : Int) := by omega
    have d1 : (1 : Int) < (n : Int) := by omega
    have d2 : (2 : Int) < (n : Int) := by omega
    have e : mrk zs = (zs.getD 0 0 == 239 && zs.getD 1 0 == 187 && zs.getD 2 0 == 191) := by unfold mrk; rw [decide_eq_true (by omega)]; rfl
    rw [e]
    generalize zs.getD 0 0 = x at *
    generalize zs.getD 1 0 = y at *
    generalize zs.getD 2 0 = z at *
    clear e hc hr hl
    go_enter Try.func29, Try.ntmps29
    go_wp2
    all_goals (go_ret; refine ⟨ret_bool (bool_iff ?_), rfl⟩; simp_all)
  · have d : decide ((3 : Int) ≤ (n : Int)) = false := decide_eq_false (by omega)
    have e : mrk zs = false := by unfold mrk; rw [decide_eq_false (by omega)]; rfl
    rw [e]
    clear e hr hl
    go_enter Try.func29, Try.ntmps29
    go_wp2
    go_ret
    exact ⟨rfl, rfl⟩
end Go.Proofs.Ytpcbpblckecfiaa
