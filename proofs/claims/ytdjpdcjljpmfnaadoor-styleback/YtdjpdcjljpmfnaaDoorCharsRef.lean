/- The contracts of the document's answers for runes: Printable, Rune. -/
import Derived.Test.YtdjpdcjljpmfnaaDoorChars
namespace Go.Proofs.YtdjpdcjljpmfnaaDoor
open Go.RowKit
set_option linter.unusedVariables false

set_option maxHeartbeats 1000000 in
theorem refPrt_any (r : Int) (w : World) :
    Calls Tryd.prog 41 #[.int .i32 r] w fun e w' => e = .returned (.bool (prt r)) ∧ w = w' := by
  by_cases h4 : r = 9 ∨ r = 10 ∨ r = 13 ∨ r = 133
  · have hp : prt r = true := by unfold prt; rw [if_pos h4]
    rw [hp]; clear hp
    rcases h4 with rfl | rfl | rfl | rfl
    all_goals
      go_enter Tryd.func41, Tryd.ntmps41
      go_wp2
      go_ret
      exact ⟨rfl, rfl⟩
  · have e9 : (r == 9) = false := beq_eq_false_iff_ne.2 (by omega)
    have e10 : (r == 10) = false := beq_eq_false_iff_ne.2 (by omega)
    have e13 : (r == 13) = false := beq_eq_false_iff_ne.2 (by omega)
    have e133 : (r == 133) = false := beq_eq_false_iff_ne.2 (by omega)
    by_cases h3 : r = 65279 ∨ r = 65534 ∨ r = 65535
    · have hp : prt r = false := by unfold prt; rw [if_neg h4, if_neg (by omega), if_pos h3]
      rw [hp]; clear hp h4 e9 e10 e13 e133
      rcases h3 with rfl | rfl | rfl
      all_goals
        go_enter Tryd.func41, Tryd.ntmps41
        go_wp2
        go_ret
        exact ⟨rfl, rfl⟩
    · have f1 : (r == 65279) = false := beq_eq_false_iff_ne.2 (by omega)
      have f2 : (r == 65534) = false := beq_eq_false_iff_ne.2 (by omega)
      have f3 : (r == 65535) = false := beq_eq_false_iff_ne.2 (by omega)
      have hp : prt r = (!(decide (r < 32) || (decide (127 ≤ r) && decide (r ≤ 159))) && (decide (r ≤ 1114111) && !surr r)) := by
        unfold prt; rw [if_neg h4, if_neg h3]
        by_cases hq : r < 32 ∨ (127 ≤ r ∧ r ≤ 159)
        · rw [if_pos hq]; simp; omega
        · rw [if_neg hq]
          have : (decide (r < 32) || (decide (127 ≤ r) && decide (r ≤ 159))) = false := by simp; omega
          rw [this]; rfl
      have HP := Lib.hid hp
      clear hp h4 h3
      go_enter Tryd.func41, Tryd.ntmps41
      go_wp2
      all_goals
        go_ret
        refine ⟨ret_bool (bool_iff ?_), rfl⟩
        rw [HP.out]
        simp only [surr]
        simp_all
        try omega
theorem ldR_mod (c : Int) (h1 : 194 ≤ c) (h2 : c ≤ 244) : (c ≤ 223 → ldR c = c % 32 ∧ ldN c = 2 ∧ ldL c = 128) ∧ (224 ≤ c → c ≤ 239 → ldR c = c % 16 ∧ ldN c = 3 ∧ ldL c = 2048) ∧ (240 ≤ c → ldR c = c % 8 ∧ ldN c = 4 ∧ ldL c = 65536) := by
  unfold ldR ldN ldL
  repeat' split
  all_goals omega

/-- What a rune does not begin with. -/
theorem runeF_off (c : Int) (t : List Int) (h : (128 ≤ c ∧ c < 194) ∨ (244 < c ∧ c < 256)) : runeF (c :: t) = (0, 1, false) := by
  by_cases hs : ldN c = 0 ∨ ((c :: t).length : Int) < ldN c
  · exact runeF_short c t hs
  · have hl : 1 ≤ ldN c := by rcases ldN_cases c with e | e | e | e | e <;> omega
    cases ha : accR (ldR c) (t.take (ldN c - 1).toNat) with
    | none => exact runeF_none c t hl (by omega) ha
    | some r =>
      refine runeF_bad c t hl (by omega) r ha ?_
      have hlen : (t.take (ldN c - 1).toNat).length = (ldN c - 1).toNat := by
        rw [List.length_take]; simp at hs; omega
      have hlo := accR_lo _ _ _ ha
      have hup := (accR_bd _ _ _ (ldR_bd c (by omega)).1 ha).2
      rw [hlen] at hlo hup
      have hc : (ldN c = 2 ∧ ldL c = 128 ∧ ldR c ≤ 1) ∨ (ldN c = 4 ∧ 5 ≤ ldR c) := by
        revert hs hl
        unfold ldN ldL ldR
        repeat' split
        all_goals omega
      rcases hc with ⟨e1, e2, e3⟩ | ⟨e1, e3⟩
      · rw [e1] at hup
        left; rw [e2]
        have : ((2 : Int) - 1).toNat = 1 := rfl
        rw [this] at hup
        simp at hup; omega
      · rw [e1] at hlo
        right; left
        have : ((4 : Int) - 1).toNat = 3 := rfl
        rw [this] at hlo
        simp at hlo; omega

set_option maxHeartbeats 2000000 in
theorem refRune_2 (b off : Nat) (c : Int) (t : List Int) (n cap : Nat) (w : World) (h0 : 194 ≤ c) (h1 : c ≤ 223) (hb : Byte t) (hn : n = t.length + 1) (hnc : n ≤ cap) (hm : cap ≤ 9223372036854775807)
    (hc : ∀ k z, (c :: t)[k]? = some z → w.cell? ⟨b, off + k, none⟩ = some (.int .u8 z)) :
    Calls Tryd.prog 39 #[.slice (some ⟨b, off, none⟩) n cap] w fun e w' => e = retRune (runeF (c :: t)) ∧ w = w' := by
  have hld : ldR c = c % 32 ∧ ldN c = 2 ∧ ldL c = 128 := (ldR_mod c (by omega) (by omega)).1 (by omega)
  have hcell : w.cell? ⟨b, off, none⟩ = some (.int .u8 c) := hc 0 c rfl
  have d : (0 : Int) < (n : Int) := by omega
  have d0 : ((n : Int) == 0) = false := beq_eq_false_iff_ne.2 (by omega)
  have hlen : ((c :: t).length : Int) = n := by simp; omega
  by_cases hsh : n < 2
  · have hrf := runeF_short c t (by rw [hlen]; omega)
    rw [hrf]
    have dd : (n : Int) < 2 := by omega
    clear hc hrf hlen hld hn hb
    go_enter Tryd.func39, Tryd.ntmps39
    go_wp2
    go_ret3
    exact ⟨rfl, rfl⟩
  · have rn := runeF_none c t (by omega) (by omega)
    have rb := runeF_bad c t (by omega) (by omega)
    have rg := runeF_good c t (by omega) (by omega)
    have h00 : 0 ≤ c := by omega
    have hstep := fun k z R => acc_step c h00 t k z R
    have hstop := fun k m => acc_stop c t k m
    have hroom := fun l q => acc_room c h00 l q
    have hbd := fun l q => acc_bd c h00 l q
    simp only [hld.1, hld.2.1, hld.2.2] at rn rb rg hstep hstop hroom hbd
    have RN := Lib.hid rn
    have RB := Lib.hid rb
    have RG := Lib.hid rg
    have ST := Lib.hid hstep
    have SP := Lib.hid hstop
    have RM := Lib.hid hroom
    have BD := Lib.hid hbd
    have HC := Lib.hid hc
    have HB := Lib.hid hb
    have dd : (2 : Int) ≤ (n : Int) := by omega
    have hmt : 2 - 1 ≤ t.length := by omega
    have hn1 : t.length + 1 ≤ n := by omega
    clear rn rb rg hstep hstop hroom hbd hc hb hlen hld hn
    go_enter Tryd.func39, Tryd.ntmps39
    go_wp2
    go_loop [2, 3, 8, 9] (fun r1 n1 r i => ∃ (k : Nat) (R : Int), k + 1 ≤ 2 ∧ i = .int .i64 ((k : Int) + 1) ∧ r = .int .i32 R ∧ r1 = .int .i32 0 ∧ n1 = .int .i64 0 ∧ Hid (accR (c % 32) (t.take k) = some R)) (fun _ _ _ i => 2 - (intOf i).toNat)
    case atStart => exact ⟨0, c % 32, by omega, rfl, rfl, rfl, rfl, rfl⟩
    case round =>
      obtain ⟨k, R, hk, rfl, rfl, rfl, rfl, HA⟩ := hrel
      by_cases hlt : k + 1 < 2
      · have dlt : (k : Int) + 1 < 2 := by omega
        have dln : (k : Int) + 1 < (n : Int) := by omega
        obtain ⟨z, hz⟩ : ∃ z, t[k]? = some z := ⟨t[k]'(by omega), List.getElem?_eq_getElem (by omega)⟩
        have hzb := HB.out z (List.mem_of_getElem? hz)
        have hzb1 := hzb.1
        have hzb2 := hzb.2
        have hcz : w.cell? ⟨b, off + (k + 1), none⟩ = some (.int .u8 z) := HC.out (k + 1) z hz
        have hrm := RM.out (t.take k) R HA.out (by rw [List.length_take]; omega)
        have hr1 := hrm.1
        have hr2 := hrm.2
        have hst := ST.out k z R hz HA.out
        cases hct : cont z
        · have hbz : (bits .and .u8 z 192 != 128) = true := by have := and_cont z hzb1 hzb2; rw [hct] at this; simp only [bne, this]; rfl
          have hrf : runeF (c :: t) = (0, 1, false) := RN.out (SP.out (k + 1) _ (by omega) (by rw [hst, hct]; rfl))
          have HRF := Lib.hid hrf
          clear hrf hst hct hrm hzb hz
          go_wp2
          go_ret3
          exact ⟨by rw [HRF.out]; rfl, rfl⟩
        · have hbz : (bits .and .u8 z 192 != 128) = false := by have := and_cont z hzb1 hzb2; rw [hct] at this; simp only [bne, this]; rfl
          have hac : accR (c % 32) (t.take (k + 1)) = some (R * 64 + z % 64) := by rw [hst, hct]; rfl
          have HAC := Lib.hid hac
          clear hac hst hct hrm hzb hz
          go_wp2
          go_round
          case rel => exact ⟨k + 1, _, by omega, by go_num, rfl, rfl, rfl, HAC⟩
          case measure => simp [intOf]; omega
      · obtain rfl : k = 2 - 1 := by omega
        have hq := BD.out (t.take (2 - 1)) R HA.out (by rw [List.length_take]; omega)
        have hq1 := hq.1
        have hq2 := hq.2
        clear hq
        have hbad := RB.out R HA.out
        have hgood := RG.out R HA.out
        have HBAD := Lib.hid hbad
        have HGOOD := Lib.hid hgood
        clear hbad hgood
        go_wp2
        all_goals go_ret3
        all_goals first
          | exact ⟨by rw [HGOOD.out (by simp [surr]; omega)]; rfl, rfl⟩
          | exact ⟨by rw [HBAD.out (by simp [surr]; omega)]; rfl, rfl⟩

set_option maxHeartbeats 2000000 in
theorem refRune_3 (b off : Nat) (c : Int) (t : List Int) (n cap : Nat) (w : World) (h0 : 224 ≤ c) (h1 : c ≤ 239) (hb : Byte t) (hn : n = t.length + 1) (hnc : n ≤ cap) (hm : cap ≤ 9223372036854775807)
    (hc : ∀ k z, (c :: t)[k]? = some z → w.cell? ⟨b, off + k, none⟩ = some (.int .u8 z)) :
    Calls Tryd.prog 39 #[.slice (some ⟨b, off, none⟩) n cap] w fun e w' => e = retRune (runeF (c :: t)) ∧ w = w' := by
  have hld : ldR c = c % 16 ∧ ldN c = 3 ∧ ldL c = 2048 := (ldR_mod c (by omega) (by omega)).2.1 (by omega) (by omega)
  have hcell : w.cell? ⟨b, off, none⟩ = some (.int .u8 c) := hc 0 c rfl
  have d : (0 : Int) < (n : Int) := by omega
  have d0 : ((n : Int) == 0) = false := beq_eq_false_iff_ne.2 (by omega)
  have hlen : ((c :: t).length : Int) = n := by simp; omega
  by_cases hsh : n < 3
  · have hrf := runeF_short c t (by rw [hlen]; omega)
    rw [hrf]
    have dd : (n : Int) < 3 := by omega
    clear hc hrf hlen hld hn hb
    go_enter Tryd.func39, Tryd.ntmps39
    go_wp2
    go_ret3
    exact ⟨rfl, rfl⟩
  · have rn := runeF_none c t (by omega) (by omega)
    have rb := runeF_bad c t (by omega) (by omega)
    have rg := runeF_good c t (by omega) (by omega)
    have h00 : 0 ≤ c := by omega
    have hstep := fun k z R => acc_step c h00 t k z R
    have hstop := fun k m => acc_stop c t k m
    have hroom := fun l q => acc_room c h00 l q
    have hbd := fun l q => acc_bd c h00 l q
    simp only [hld.1, hld.2.1, hld.2.2] at rn rb rg hstep hstop hroom hbd
    have RN := Lib.hid rn
    have RB := Lib.hid rb
    have RG := Lib.hid rg
    have ST := Lib.hid hstep
    have SP := Lib.hid hstop
    have RM := Lib.hid hroom
    have BD := Lib.hid hbd
    have HC := Lib.hid hc
    have HB := Lib.hid hb
    have dd : (3 : Int) ≤ (n : Int) := by omega
    have hmt : 3 - 1 ≤ t.length := by omega
    have hn1 : t.length + 1 ≤ n := by omega
    clear rn rb rg hstep hstop hroom hbd hc hb hlen hld hn
    go_enter Tryd.func39, Tryd.ntmps39
    go_wp2
    go_loop [2, 3, 8, 9] (fun r1 n1 r i => ∃ (k : Nat) (R : Int), k + 1 ≤ 3 ∧ i = .int .i64 ((k : Int) + 1) ∧ r = .int .i32 R ∧ r1 = .int .i32 0 ∧ n1 = .int .i64 0 ∧ Hid (accR (c % 16) (t.take k) = some R)) (fun _ _ _ i => 3 - (intOf i).toNat)
    case atStart => exact ⟨0, c % 16, by omega, rfl, rfl, rfl, rfl, rfl⟩
    case round =>
      obtain ⟨k, R, hk, rfl, rfl, rfl, rfl, HA⟩ := hrel
      by_cases hlt : k + 1 < 3
      · have dlt : (k : Int) + 1 < 3 := by omega
        have dln : (k : Int) + 1 < (n : Int) := by omega
        obtain ⟨z, hz⟩ : ∃ z, t[k]? = some z := ⟨t[k]'(by omega), List.getElem?_eq_getElem (by omega)⟩
        have hzb := HB.out z (List.mem_of_getElem? hz)
        have hzb1 := hzb.1
        have hzb2 := hzb.2
        have hcz : w.cell? ⟨b, off + (k + 1), none⟩ = some (.int .u8 z) := HC.out (k + 1) z hz
        have hrm := RM.out (t.take k) R HA.out (by rw [List.length_take]; omega)
        have hr1 := hrm.1
        have hr2 := hrm.2
        have hst := ST.out k z R hz HA.out
        cases hct : cont z
        · have hbz : (bits .and .u8 z 192 != 128) = true := by have := and_cont z hzb1 hzb2; rw [hct] at this; simp only [bne, this]; rfl
          have hrf : runeF (c :: t) = (0, 1, false) := RN.out (SP.out (k + 1) _ (by omega) (by rw [hst, hct]; rfl))
          have HRF := Lib.hid hrf
          clear hrf hst hct hrm hzb hz
          go_wp2
          go_ret3
          exact ⟨by rw [HRF.out]; rfl, rfl⟩
        · have hbz : (bits .and .u8 z 192 != 128) = false := by have := and_cont z hzb1 hzb2; rw [hct] at this; simp only [bne, this]; rfl
          have hac : accR (c % 16) (t.take (k + 1)) = some (R * 64 + z % 64) := by rw [hst, hct]; rfl
          have HAC := Lib.hid hac
          clear hac hst hct hrm hzb hz
          go_wp2
          go_round
          case rel => exact ⟨k + 1, _, by omega, by go_num, rfl, rfl, rfl, HAC⟩
          case measure => simp [intOf]; omega
      · obtain rfl : k = 3 - 1 := by omega
        have hq := BD.out (t.take (3 - 1)) R HA.out (by rw [List.length_take]; omega)
        have hq1 := hq.1
        have hq2 := hq.2
        clear hq
        have hbad := RB.out R HA.out
        have hgood := RG.out R HA.out
        have HBAD := Lib.hid hbad
        have HGOOD := Lib.hid hgood
        clear hbad hgood
        go_wp2
        all_goals go_ret3
        all_goals first
          | exact ⟨by rw [HGOOD.out (by simp [surr]; omega)]; rfl, rfl⟩
          | exact ⟨by rw [HBAD.out (by simp [surr]; omega)]; rfl, rfl⟩

set_option maxHeartbeats 2000000 in
theorem refRune_4 (b off : Nat) (c : Int) (t : List Int) (n cap : Nat) (w : World) (h0 : 240 ≤ c) (h1 : c ≤ 244) (hb : Byte t) (hn : n = t.length + 1) (hnc : n ≤ cap) (hm : cap ≤ 9223372036854775807)
    (hc : ∀ k z, (c :: t)[k]? = some z → w.cell? ⟨b, off + k, none⟩ = some (.int .u8 z)) :
    Calls Tryd.prog 39 #[.slice (some ⟨b, off, none⟩) n cap] w fun e w' => e = retRune (runeF (c :: t)) ∧ w = w' := by
  have hld : ldR c = c % 8 ∧ ldN c = 4 ∧ ldL c = 65536 := (ldR_mod c (by omega) (by omega)).2.2 (by omega)
  have hcell : w.cell? ⟨b, off, none⟩ = some (.int .u8 c) := hc 0 c rfl
  have d : (0 : Int) < (n : Int) := by omega
  have d0 : ((n : Int) == 0) = false := beq_eq_false_iff_ne.2 (by omega)
  have hlen : ((c :: t).length : Int) = n := by simp; omega
  by_cases hsh : n < 4
  · have hrf := runeF_short c t (by rw [hlen]; omega)
    rw [hrf]
    have dd : (n : Int) < 4 := by omega
    clear hc hrf hlen hld hn hb
    go_enter Tryd.func39, Tryd.ntmps39
    go_wp2
    go_ret3
    exact ⟨rfl, rfl⟩
  · have rn := runeF_none c t (by omega) (by omega)
    have rb := runeF_bad c t (by omega) (by omega)
    have rg := runeF_good c t (by omega) (by omega)
    have h00 : 0 ≤ c := by omega
    have hstep := fun k z R => acc_step c h00 t k z R
    have hstop := fun k m => acc_stop c t k m
    have hroom := fun l q => acc_room c h00 l q
    have hbd := fun l q => acc_bd c h00 l q
    simp only [hld.1, hld.2.1, hld.2.2] at rn rb rg hstep hstop hroom hbd
    have RN := Lib.hid rn
    have RB := Lib.hid rb
    have RG := Lib.hid rg
    have ST := Lib.hid hstep
    have SP := Lib.hid hstop
    have RM := Lib.hid hroom
    have BD := Lib.hid hbd
    have HC := Lib.hid hc
    have HB := Lib.hid hb
    have dd : (4 : Int) ≤ (n : Int) := by omega
    have hmt : 4 - 1 ≤ t.length := by omega
    have hn1 : t.length + 1 ≤ n := by omega
    clear rn rb rg hstep hstop hroom hbd hc hb hlen hld hn
    go_enter Tryd.func39, Tryd.ntmps39
    go_wp2
    go_loop [2, 3, 8, 9] (fun r1 n1 r i => ∃ (k : Nat) (R : Int), k + 1 ≤ 4 ∧ i = .int .i64 ((k : Int) + 1) ∧ r = .int .i32 R ∧ r1 = .int .i32 0 ∧ n1 = .int .i64 0 ∧ Hid (accR (c % 8) (t.take k) = some R)) (fun _ _ _ i => 4 - (intOf i).toNat)
    case atStart => exact ⟨0, c % 8, by omega, rfl, rfl, rfl, rfl, rfl⟩
    case round =>
      obtain ⟨k, R, hk, rfl, rfl, rfl, rfl, HA⟩ := hrel
      by_cases hlt : k + 1 < 4
      · have dlt : (k : Int) + 1 < 4 := by omega
        have dln : (k : Int) + 1 < (n : Int) := by omega
        obtain ⟨z, hz⟩ : ∃ z, t[k]? = some z := ⟨t[k]'(by omega), List.getElem?_eq_getElem (by omega)⟩
        have hzb := HB.out z (List.mem_of_getElem? hz)
        have hzb1 := hzb.1
        have hzb2 := hzb.2
        have hcz : w.cell? ⟨b, off + (k + 1), none⟩ = some (.int .u8 z) := HC.out (k + 1) z hz
        have hrm := RM.out (t.take k) R HA.out (by rw [List.length_take]; omega)
        have hr1 := hrm.1
        have hr2 := hrm.2
        have hst := ST.out k z R hz HA.out
        cases hct : cont z
        · have hbz : (bits .and .u8 z 192 != 128) = true := by have := and_cont z hzb1 hzb2; rw [hct] at this; simp only [bne, this]; rfl
          have hrf : runeF (c :: t) = (0, 1, false) := RN.out (SP.out (k + 1) _ (by omega) (by rw [hst, hct]; rfl))
          have HRF := Lib.hid hrf
          clear hrf hst hct hrm hzb hz
          go_wp2
          go_ret3
          exact ⟨by rw [HRF.out]; rfl, rfl⟩
        · have hbz : (bits .and .u8 z 192 != 128) = false := by have := and_cont z hzb1 hzb2; rw [hct] at this; simp only [bne, this]; rfl
          have hac : accR (c % 8) (t.take (k + 1)) = some (R * 64 + z % 64) := by rw [hst, hct]; rfl
          have HAC := Lib.hid hac
          clear hac hst hct hrm hzb hz
          go_wp2
          go_round
          case rel => exact ⟨k + 1, _, by omega, by go_num, rfl, rfl, rfl, HAC⟩
          case measure => simp [intOf]; omega
      · obtain rfl : k = 4 - 1 := by omega
        have hq := BD.out (t.take (4 - 1)) R HA.out (by rw [List.length_take]; omega)
        have hq1 := hq.1
        have hq2 := hq.2
        clear hq
        have hbad := RB.out R HA.out
        have hgood := RG.out R HA.out
        have HBAD := Lib.hid hbad
        have HGOOD := Lib.hid hgood
        clear hbad hgood
        go_wp2
        all_goals go_ret3
        all_goals first
          | exact ⟨by rw [HGOOD.out (by simp [surr]; omega)]; rfl, rfl⟩
          | exact ⟨by rw [HBAD.out (by simp [surr]; omega)]; rfl, rfl⟩


set_option maxHeartbeats 1000000 in
theorem refRune_nil (A : Option Addr) (cap : Nat) (w : World) :
    Calls Tryd.prog 39 #[.slice A 0 cap] w fun e w' => e = retRune (0, 0, false) ∧ w = w' := by
  go_enter Tryd.func39, Tryd.ntmps39
  go_wp2
  go_ret3
  exact ⟨rfl, rfl⟩

set_option maxHeartbeats 1000000 in
theorem refRune_one (b off : Nat) (c : Int) (n cap : Nat) (w : World) (h0 : 0 ≤ c) (h1 : c < 128) (hn : 1 ≤ n) (hc : w.cell? ⟨b, off, none⟩ = some (.int .u8 c)) :
    Calls Tryd.prog 39 #[.slice (some ⟨b, off, none⟩) n cap] w fun e w' => e = retRune (c, 1, true) ∧ w = w' := by
  have d : (0 : Int) < (n : Int) := by omega
  have d0 : ((n : Int) == 0) = false := beq_eq_false_iff_ne.2 (by omega)
  go_enter Tryd.func39, Tryd.ntmps39
  go_wp2
  go_ret3
  exact ⟨rfl, rfl⟩

set_option maxHeartbeats 1000000 in
theorem refRune_off (b off : Nat) (c : Int) (n cap : Nat) (w : World) (h : (128 ≤ c ∧ c < 194) ∨ (244 < c ∧ c < 256)) (hn : 1 ≤ n) (hc : w.cell? ⟨b, off, none⟩ = some (.int .u8 c)) :
    Calls Tryd.prog 39 #[.slice (some ⟨b, off, none⟩) n cap] w fun e w' => e = retRune (0, 1, false) ∧ w = w' := by
  have d : (0 : Int) < (n : Int) := by omega
  have d0 : ((n : Int) == 0) = false := beq_eq_false_iff_ne.2 (by omega)
  rcases h with ⟨h1, h2⟩ | ⟨h1, h2⟩
  all_goals
    go_enter Tryd.func39, Tryd.ntmps39
    go_wp2
    go_ret3
    exact ⟨rfl, rfl⟩

theorem refRune_any (A : Option Addr) (n cap : Nat) (zs : List Int) (w : World) (hl : zs.length = n) (hnc : n ≤ cap) (hm : cap ≤ 9223372036854775807) (hb : Byte zs) (hr : RdB w A zs) :
    Calls Tryd.prog 39 #[.slice A n cap] w fun e w' => e = retRune (runeF zs) ∧ w = w' := by
  cases zs with
  | nil =>
    simp at hl; subst hl
    exact refRune_nil A cap w
  | cons c t =>
    obtain ⟨b, off, rfl, hc⟩ := hr.cons
    have hcb := hb c (by simp)
    have hbt : Byte t := fun z hz => hb z (by simp [hz])
    have h0 : w.cell? ⟨b, off, none⟩ = some (.int .u8 c) := hc 0 c rfl
    have hn : n = t.length + 1 := by simpa using hl.symm
    by_cases g1 : c < 128
    · rw [runeF_ascii c t hcb.1 g1]
      exact refRune_one b off c n cap w hcb.1 g1 (by omega) h0
    · by_cases g2 : (128 ≤ c ∧ c < 194) ∨ (244 < c ∧ c < 256)
      · rw [runeF_off c t g2]
        exact refRune_off b off c n cap w g2 (by omega) h0
      · by_cases g3 : c ≤ 223
        · exact refRune_2 b off c t n cap w (by omega) g3 hbt hn hnc hm hc
        · by_cases g4 : c ≤ 239
          · exact refRune_3 b off c t n cap w (by omega) g4 hbt hn hnc hm hc
          · exact refRune_4 b off c t n cap w (by omega) (by omega) hbt hn hnc hm hc

theorem refRune_at (A : Option Addr) (n cap : Nat) (ys : List Int) (w : World) (r : Int) (j : Int) (ok : Bool) (hl : ys.length = n) (hnc : n ≤ cap) (hm : cap ≤ 9223372036854775807) (hb : Byte ys) (hr : RdB w A ys) (hf : runeF ys = (r, j, ok)) :
    Calls Tryd.prog 39 #[.slice A n cap] w fun e w' => e = .returned (.tuple #[.int .i32 r, .int .i64 j, .bool ok]) ∧ w = w' := by
  have := refRune_any A n cap ys w hl hnc hm hb hr
  rw [hf] at this
  exact this
end Go.Proofs.YtdjpdcjljpmfnaaDoor
