/- The document's answers of chapter 11: blanks, Clear, Comment, Marker. -/
import Derived.Test.YtjdmbldbbohdbaaTlMark
namespace Go.Proofs.Ytjdmbldbbohdbaa
open Go.RowKit
set_option linter.unusedVariables false

set_option maxHeartbeats 1000000 in
theorem refBlanks_any (A : Option Addr) (n c : Nat) (zs : List Int) (w : World) (hl : zs.length = n) (hnc : n ≤ c) (hm : c ≤ 9223372036854775807) (hr : RdB w A zs) :
    Calls Try.prog 26 #[.slice A n c] w fun e w' => e = .returned (.int .i64 (blkF zs : Int)) ∧ w = w' := by
  have HR := Lib.hid hr
  have HL := Lib.hid hl
  clear hr hl
  go_enter Try.func26, Try.ntmps26
  go_wp2
  go_loop [3] (fun i => ∃ k : Nat, k ≤ n ∧ i = .int .i64 (k : Int) ∧ Hid (blkF zs = k + blkF (zs.drop k))) (fun i => n - (intOf i).toNat)
  case atStart => exact ⟨0, Nat.zero_le _, rfl, by show _ = _; simp⟩
  case round =>
    obtain ⟨k, hk, rfl, HA⟩ := hrel
    by_cases hlt : k < n
    · obtain ⟨b, off, rfl, hc⟩ := HR.out.addr (by rw [HL.out]; omega)
      have ck := hc k (by rw [HL.out]; exact hlt)
      have hbk := blk_at (l := zs) (k := k) (by rw [HL.out]; exact hlt)
      have d1 : (k : Int) < (n : Int) := by omega
      generalize zs.getD k 0 = x at *
      by_cases h32 : x = 32
      · subst h32
        have HK : Hid (blkF zs = k + 1 + blkF (zs.drop (k + 1))) := by show _ = _; rw [HA.out, hbk, if_pos rfl]; omega
        clear hbk hc
        go_wp2
        go_round
        case rel => exact ⟨k + 1, by omega, by go_num, HK⟩
        case measure => simp [intOf]; omega
      · have HK : Hid (blkF zs = k) := by show _ = _; rw [HA.out, hbk, if_neg h32]; omega
        have ds : (x == 32) = false := beq_eq_false_iff_ne.2 h32
        clear hbk hc
        go_wp2
        go_ret
        exact ⟨ret_int (by rw [HK.out]), rfl⟩
    · have HK : Hid (blkF zs = k) := by show _ = _; rw [HA.out, blk_end (by rw [HL.out]; omega)]; omega
      have d1 : decide ((k : Int) < (n : Int)) = false := decide_eq_false (by omega)
      go_wp2
      go_ret
      exact ⟨ret_int (by rw [HK.out]), rfl⟩
set_option maxHeartbeats 1000000 in
theorem refClear_any (A : Option Addr) (n c : Nat) (zs : List Int) (w : World) (hl : zs.length = n) (hnc : n ≤ c) (hm : c ≤ 9223372036854775807) (hr : RdB w A zs) (v : Bool) (hv : clrF zs = v) :
    Calls Try.prog 19 #[.slice A n c] w fun e w' => e = .returned (.bool v) ∧ w = w' := by
  subst hl
  have HBL := Lib.hid (refBlanks_any A zs.length c zs w rfl hnc hm hr)
  unfold clrF cmtF at hv
  have hk := blk_len zs
  generalize blkF zs = k at *
  by_cases h : k = zs.length
  · rw [decide_eq_true h, Bool.true_or] at hv
    subst hv
    have d : (k : Int) = (zs.length : Int) := by omega
    clear hr
    go_enter Try.func19, Try.ntmps19
    go_wp2_with (go_at_call 26; refine HBL.out.mono ?_; rintro e w' ⟨rfl, rfl⟩)
    go_ret
    exact ⟨rfl, rfl⟩
  · have hlt : k < zs.length := by omega
    have d : ((k : Int) == (zs.length : Int)) = false := beq_eq_false_iff_ne.2 (by omega)
    rw [decide_eq_false h, Bool.false_or, decide_eq_true hlt, Bool.true_and] at hv
    obtain ⟨b, off, rfl, hc⟩ := hr.addr (by omega)
    have ck := hc k hlt
    generalize zs.getD k 0 = x at *
    clear hc hr
    by_cases h0 : 0 < k
    · rw [decide_eq_true h0, Bool.true_and] at hv
      have d0 : (0 : Int) < (k : Int) := by omega
      have HV := Lib.hid hv
      clear hv
      go_enter Try.func19, Try.ntmps19
      go_wp2_with (go_at_call 26; refine HBL.out.mono ?_; rintro e w' ⟨rfl, rfl⟩)
      go_ret
      exact ⟨ret_bool HV.out, rfl⟩
    · rw [decide_eq_false h0, Bool.false_and] at hv
      subst hv
      have d0 : decide ((0 : Int) < (k : Int)) = false := decide_eq_false (by omega)
      go_enter Try.func19, Try.ntmps19
      go_wp2_with (go_at_call 26; refine HBL.out.mono ?_; rintro e w' ⟨rfl, rfl⟩)
      go_ret
      exact ⟨rfl, rfl⟩
set_option maxHeartbeats 1000000 in
theorem refComment_any (A : Option Addr) (n c : Nat) (zs : List Int) (w : World) (hl : zs.length = n) (hnc : n ≤ c) (hm : c ≤ 9223372036854775807) (hr : RdB w A zs) :
    Calls Try.prog 17 #[.slice A n c] w fun e w' => e = .returned (.tuple #[.int .i64 (if cmtF zs then (blkF zs : Int) else 0), .bool (cmtF zs)]) ∧ w = w' := by
  subst hl
  have HBL := Lib.hid (refBlanks_any A zs.length c zs w rfl hnc hm hr)
  have hk := blk_len zs
  have hclr : clrF zs = (decide (blkF zs = zs.length) || cmtF zs) := rfl
  cases hv : cmtF zs with
  | true =>
    have hlt := cmt_lt hv
    rw [hv, Bool.or_true] at hclr
    have HC := Lib.hid (refClear_any A zs.length c zs w rfl hnc hm hr _ hclr)
    generalize blkF zs = k at *
    have d : ((k : Int) == (zs.length : Int)) = false := beq_eq_false_iff_ne.2 (by omega)
    clear hr hv hclr hk
    go_enter Try.func17, Try.ntmps17
    go_wp2_with (first
      | (go_at_call 26; refine HBL.out.mono ?_; rintro e w' ⟨rfl, rfl⟩)
      | (go_at_call 19; refine HC.out.mono ?_; rintro e w' ⟨rfl, rfl⟩))
    go_ret2
    exact ⟨rfl, rfl⟩
  | false =>
    rw [hv, Bool.or_false] at hclr
    by_cases h : blkF zs = zs.length
    · rw [decide_eq_true h] at hclr
      have HC := Lib.hid (refClear_any A zs.length c zs w rfl hnc hm hr _ hclr)
      have d : (blkF zs : Int) = (zs.length : Int) := by omega
      generalize blkF zs = k at *
      clear hr hv hclr hk h
      go_enter Try.func17, Try.ntmps17
      go_wp2_with (first
        | (go_at_call 26; refine HBL.out.mono ?_; rintro e w' ⟨rfl, rfl⟩)
        | (go_at_call 19; refine HC.out.mono ?_; rintro e w' ⟨rfl, rfl⟩))
      go_ret2
      exact ⟨rfl, rfl⟩
    · rw [decide_eq_false h] at hclr
      have HC := Lib.hid (refClear_any A zs.length c zs w rfl hnc hm hr _ hclr)
      generalize blkF zs = k at *
      clear hr hv hclr hk h
      go_enter Try.func17, Try.ntmps17
      go_wp2_with (first
        | (go_at_call 26; refine HBL.out.mono ?_; rintro e w' ⟨rfl, rfl⟩)
        | (go_at_call 19; refine HC.out.mono ?_; rintro e w' ⟨rfl, rfl⟩))
      go_ret2
      exact ⟨rfl, rfl⟩
theorem three_list (x y z : Int) (l : List Int) (h : (l.take 3 == [x, y, z]) = true) : l.getD 0 0 = x ∧ 3 ≤ l.length := by
  rw [beq_iff_eq] at h
  match l, h with
  | [], h => cases h
  | [a], h => cases h
  | [a, b], h => cases h
  | a :: b :: c :: t, h => injection h with h1 h2; subst h1; exact ⟨rfl, by simp⟩
theorem mrk_short (l : List Int) (h : l.length < 3) : mrkF l = 0 := by
  unfold mrkF pfxF
  rw [decide_eq_false (show ¬ ([45, 45, 45] : List Int).length ≤ l.length by simp; omega), decide_eq_false (show ¬ ([46, 46, 46] : List Int).length ≤ l.length by simp; omega)]
  rfl
theorem mrk_long (l : List Int) (h : 3 ≤ l.length) : mrkF l = if (l.take 3 == [45, 45, 45]) = true then mkF (l.drop 3) 1 else if (l.take 3 == [46, 46, 46]) = true then mkF (l.drop 3) 2 else 0 := by
  unfold mrkF pfxF
  rw [decide_eq_true (show ([45, 45, 45] : List Int).length ≤ l.length by simpa using h), decide_eq_true (show ([46, 46, 46] : List Int).length ≤ l.length by simpa using h)]
  rfl
set_option maxHeartbeats 2000000 in
theorem refMarker_any (A : Option Addr) (n c : Nat) (zs : List Int) (w : World) (hl : zs.length = n) (hnc : n ≤ c) (hm : c ≤ 9223372036854775807) (hA : A = none → c = 0) (hr : RdB w A zs) (hb : Byte zs) :
    Calls Try.prog 20 #[.slice A n c] w fun e w' => e = .returned (.int .i64 (mrkF zs)) ∧ w = w' := by
  subst hl
  by_cases h3 : zs.length < 3
  · have d : (zs.length : Int) < 3 := by omega
    rw [mrk_short zs h3]
    clear hr hA
    go_enter Try.func20, Try.ntmps20
    go_wp2_with fail
    go_ret
    exact ⟨rfl, rfl⟩
  · have h3' : 3 ≤ zs.length := by omega
    have d : decide ((zs.length : Int) < 3) = false := decide_eq_false (by omega)
    have hsl := slice_h A zs.length c 3 h3' hnc hA
    simp only [show ((3 : Nat) : Int) = 3 from rfl] at hsl
    obtain ⟨A', hs2, hA', h2⟩ := slice_l A zs.length c 3 zs rfl hnc hA h3'
    simp only [show ((3 : Nat) : Int) = 3 from rfl] at hs2
    have hcv := run_string_rd w A 3 c (zs.take 3) (by rw [List.length_take]; omega) (hr.take 3)
    have e45 : ((strOfNums (zs.take 3)).toList == ([45, 45, 45] : List UInt8)) = (zs.take 3 == [45, 45, 45]) := by
      have := str_eq (zs.take 3) (hb.take 3) ⟨#[45, 45, 45]⟩
      rwa [show (⟨#[45, 45, 45]⟩ : ByteArray).toList = [45, 45, 45] by rw [Lib.toList_data], show byt ⟨#[45, 45, 45]⟩ = [45, 45, 45] from rfl] at this
    have e46 : ((strOfNums (zs.take 3)).toList == ([46, 46, 46] : List UInt8)) = (zs.take 3 == [46, 46, 46]) := by
      have := str_eq (zs.take 3) (hb.take 3) ⟨#[46, 46, 46]⟩
      rwa [show (⟨#[46, 46, 46]⟩ : ByteArray).toList = [46, 46, 46] by rw [Lib.toList_data], show byt ⟨#[46, 46, 46]⟩ = [46, 46, 46] from rfl] at this
    rw [mrk_long zs h3']
    have HC := Lib.hid (refClear_any A' (zs.length - 3) (c - 3) (zs.drop 3) w (by rw [List.length_drop]) (by omega) (by omega) (h2 w hr) _ rfl)
    obtain ⟨b, off, rfl, hcc⟩ := hr.addr (by omega)
    have c0 := hcc 0 (by omega)
    rw [Nat.add_zero] at c0
    have hd : ∀ q, mkF (zs.drop 3) q = if clrF (zs.drop 3) then q else if zs.getD 3 0 == 32 || zs.getD 3 0 == 9 then 3 else 0 := by
      intro q
      unfold mkF
      rw [show (zs.drop 3).getD 0 0 = zs.getD 3 0 by simp [List.getD]]
    rw [hd, hd]
    have hpos : clrF (zs.drop 3) = false → 3 < zs.length := by
      intro h
      have := clr_pos h
      rw [List.length_drop] at this
      omega
    have hz0 : ∀ x y z, (zs.take 3 == [x, y, z]) = true → zs.getD 0 0 = x := fun x y z h => (three_list x y z zs h).1
    have hc3 : ∀ (h : 3 < zs.length), w.cell? ⟨b, off + 3, none⟩ = some (.int .u8 (zs.getD 3 0)) := fun h => hcc 3 h
    generalize strOfNums (zs.take 3) = t at *
    generalize zs.getD 3 0 = y at *
    generalize zs.getD 0 0 = x at *
    generalize hg : clrF (zs.drop 3) = cl at *
    clear hcc hr h2 hb hd hA hA' hg
    have H0 := Lib.hid hz0
    have HP := Lib.hid hpos
    have H3 := Lib.hid hc3
    clear hz0 hpos hc3
    cases h45 : (zs.take 3 == [45, 45, 45]) with
    | true =>
      obtain rfl : x = 45 := H0.out _ _ _ h45
      rw [h45] at e45
      have n45 : (t.toList != ([45, 45, 45] : List UInt8)) = false := by simp [bne, e45]
      clear e46 h45
      cases cl with
      | true =>
        go_enter Try.func20, Try.ntmps20
        go_wp2_with (go_at_call 19; refine HC.out.mono ?_; rintro e w' ⟨rfl, rfl⟩)
        go_ret
        exact ⟨rfl, rfl⟩
      | false =>
        have h4 := HP.out rfl
        have c3 := H3.out h4
        have d4 : (3 : Int) < (zs.length : Int) := by omega
        obtain ⟨v, hv⟩ : ∃ v : Int, (if (y == 32 || y == 9) = true then (3 : Int) else 0) = v := ⟨_, rfl⟩
        show Calls _ _ _ _ (fun e w' => e = .returned (.int .i64 (if (y == 32 || y == 9) = true then (3 : Int) else 0)) ∧ w = w')
        rw [hv]
        have HV := Lib.hid hv
        clear hv
        go_enter Try.func20, Try.ntmps20
        go_wp2_with (go_at_call 19; refine HC.out.mono ?_; rintro e w' ⟨rfl, rfl⟩)
        all_goals go_ret
        all_goals refine ⟨ret_int ?_, rfl⟩
        all_goals rw [← HV.out]; simp_all
    | false =>
      rw [h45] at e45
      have n45 : (t.toList != ([45, 45, 45] : List UInt8)) = true := by simp [bne, e45]
      cases h46 : (zs.take 3 == [46, 46, 46]) with
      | false =>
        rw [h46] at e46
        have n46 : (t.toList != ([46, 46, 46] : List UInt8)) = true := by simp [bne, e46]
        go_enter Try.func20, Try.ntmps20
        go_wp2_with fail
        go_ret
        exact ⟨rfl, rfl⟩
      | true =>
        obtain rfl : x = 46 := H0.out _ _ _ h46
        rw [h46] at e46
        have n46 : (t.toList != ([46, 46, 46] : List UInt8)) = false := by simp [bne, e46]
        clear h45 h46
        cases cl with
        | true =>
          go_enter Try.func20, Try.ntmps20
          go_wp2_with (go_at_call 19; refine HC.out.mono ?_; rintro e w' ⟨rfl, rfl⟩)
          go_ret
          exact ⟨rfl, rfl⟩
        | false =>
          have h4 := HP.out rfl
          have c3 := H3.out h4
          have d4 : (3 : Int) < (zs.length : Int) := by omega
          obtain ⟨v, hv⟩ : ∃ v : Int, (if (y == 32 || y == 9) = true then (3 : Int) else 0) = v := ⟨_, rfl⟩
          show Calls _ _ _ _ (fun e w' => e = .returned (.int .i64 (if (y == 32 || y == 9) = true then (3 : Int) else 0)) ∧ w = w')
          rw [hv]
          have HV := Lib.hid hv
          clear hv
          go_enter Try.func20, Try.ntmps20
          go_wp2_with (go_at_call 19; refine HC.out.mono ?_; rintro e w' ⟨rfl, rfl⟩)
          all_goals go_ret
          all_goals refine ⟨ret_int ?_, rfl⟩
          all_goals rw [← HV.out]; simp_all
end Go.Proofs.Ytjdmbldbbohdbaa
