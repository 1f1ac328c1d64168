/- The document's own answers of chapter 5: TakeSingle, PutSingle. -/
import Derived.Test.YtfapjbklkfdnhaaDoorSgMain
import Derived.Test.YtfapjbklkfdnhaaDoorOne
namespace Go.Proofs.YtfapjbklkfdnhaaDoor
open Go.RowKit
set_option linter.unusedVariables false

theorem getD_str (s : ByteArray) (k : Nat) (h : k < s.size) : (byt s).getD k 0 = (s[k].toNat : Int) := by
  simp only [List.getD, byt_at s k h, Option.getD_some]
theorem dbl_snoc (zs : List Int) (k : Nat) (h : k < zs.length) : dbl (zs.take (k + 1)) = dbl (zs.take k) ++ (if zs.getD k 0 = 39 then [39, 39] else [zs.getD k 0]) := by
  have e : zs.take (k + 1) = zs.take k ++ [zs.getD k 0] := by
    rw [List.take_add_one, getD_at h]; rfl
  rw [e, dbl_append]
  simp only [dbl]

set_option maxHeartbeats 4000000 in
theorem refTake_any (A : Option Addr) (n c : Nat) (zs : List Int) (w : World) (hl : zs.length = n) (hnc : n ≤ c) (hm : c ≤ 9223372036854775807) (hn : n ≤ 1000000) (hb : Byte zs) (hr : RdB w A zs) (o : Option (List Int × Nat)) (ho : takeS zs = o) :
    Calls Tryd.prog 14 #[.slice A n c] w (TakeP o w) := by
  have HL := Lib.hid hl
  have HR := Lib.hid hr
  have HY := Lib.hid hb
  have HO := Lib.hid ho
  by_cases hn0 : 0 < n
  · obtain ⟨b, off, rfl, hc⟩ := hr.addr (by omega)
    have c0 := hc 0 (by omega)
    rw [Nat.add_zero] at c0
    have d0 : ((n : Int) == 0) = false := beq_eq_false_iff_ne.2 (by omega)
    have d0' : (0 : Int) < (n : Int) := by omega
    by_cases h0 : zs.getD 0 0 = 39
    · have HT : Hid (tkAt zs [] 1 = o) := by show _ = _; rw [← ho, takeS, if_pos h0]
      rw [h0] at c0
      have B0 : Hid (Below w.heap.size w w) := Below.refl _ _
      clear hl hr hb ho h0 HO hc
      go_enter Tryd.func14, Tryd.ntmps14
      go_wp2_with fail
      clear c0
      go_loopw [2, 3, 4, 5, 6] (fun r1 r2 r3 v i W => ∃ (k p cap : Nat) (A' : Option Addr), 1 ≤ k ∧ k ≤ n ∧ p ≤ k ∧ r1 = .string ⟨#[]⟩ ∧ r2 = .int .i64 0 ∧ r3 = .bool false ∧ v = .slice A' p cap ∧ i = .int .i64 (k : Int) ∧ p ≤ cap ∧ cap ≤ 9223372036854775807 ∧
        Hid (∃ out : List Int, out.length = p ∧ Byte out ∧ tkAt zs out k = o ∧ W.ownsRow w.heap.size 5 1 (.slice A' p cap) p (out.map (Value.int .u8)) ∧ Below w.heap.size w W)) (fun _ _ _ _ i _ => n - (intOf i).toNat)
      case atStart => exact ⟨1, 0, 0, none, by omega, by omega, by omega, rfl, rfl, rfl, rfl, rfl, by omega, by omega, [], rfl, (fun z hz => by cases hz), HT.out, own_nil _ _ _ _, B0.out⟩
      case round =>
        obtain ⟨k, p, cap, A', hk1, hk, hpk, rfl, rfl, rfl, rfl, rfl, hpc, hcap, HK⟩ := hrel
        obtain ⟨W, hW⟩ : ∃ x, x = wr := ⟨_, rfl⟩
        subst hW
        obtain ⟨out, hol, hoy, hot, hown, hbel⟩ := HK.out
        have HB := Lib.hid hbel
        have HOL := Lib.hid hol
        have HOY := Lib.hid hoy
        have HOT := Lib.hid hot
        have HOWN := Lib.hid hown
        clear hol hoy hot hown hbel HK
        by_cases hlt : k < n
        · have hkz : k < zs.length := by rw [HL.out]; exact hlt
          have hrw := HR.out.below HB.out
          obtain ⟨b', off', e', hc⟩ := hrw.addr (by rw [HL.out]; omega)
          injection e' with e'
          injection e' with e1 e2
          subst e1 e2
          have ck := hc k hkz
          have d : (k : Int) < (n : Int) := by omega
          by_cases hbr : zs.getD k 0 = 10 ∨ zs.getD k 0 = 13
          · have hv : o = none := by rw [← HOT.out, tkAt_brk zs out k hkz hbr]
            subst hv
            clear hrw hc
            rcases hbr with hz | hz
            · rw [hz] at ck
              clear hz hkz
              go_wp2_with fail
              go_ret3
              exact ⟨⟨#[]⟩, rfl, rfl, HB.out⟩
            · rw [hz] at ck
              clear hz hkz
              go_wp2_with fail
              go_ret3
              exact ⟨⟨#[]⟩, rfl, rfl, HB.out⟩
          · have h10 : zs.getD k 0 ≠ 10 := fun h => hbr (.inl h)
            have h13 : zs.getD k 0 ≠ 13 := fun h => hbr (.inr h)
            have e10 : (zs.getD k 0 == 10) = false := beq_eq_false_iff_ne.2 h10
            have e13 : (zs.getD k 0 == 13) = false := beq_eq_false_iff_ne.2 h13
            by_cases hz : zs.getD k 0 = 39
            · by_cases hz2 : k + 1 < n ∧ zs.getD (k + 1) 0 = 39
              · have ck2 := hc (k + 1) (by rw [HL.out]; omega)
                rw [hz2.2] at ck2
                rw [hz] at ck
                have d2 : (k : Int) + 1 < (n : Int) := by omega
                have HT2 : Hid (tkAt zs (out ++ [39]) (k + 2) = o) := by show _ = _; rw [← HOT.out, tkAt_two zs out k (by rw [HL.out]; omega) hz hz2.2]
                obtain ⟨A2, cap2, W2, hrun, g1, g2, _, g4, g5⟩ := one_more w W A' cap p out HOL.out HOWN.out HB.out 39 (by omega)
                have HRUN := Lib.hid hrun
                have HG := Lib.hid (And.intro g4 g5)
                have hk2 := hz2.1
                clear hrw hc hbr h10 h13 e10 e13 hz hz2 hkz hrun g4 g5
                go_wp2_with (at_builtin; refine wpList_append_known rfl _ (.tmp 67) 22 rfl (.slice A' p cap) (.slice (some ⟨W.heap.size, 0, none⟩) 1 1) _ _ rfl rfl HRUN.out ?_)
                go_roundw
                case rel => exact ⟨k + 2, p + 1, cap2, A2, by omega, by omega, by omega, rfl, rfl, rfl, rfl, by go_num, g1, g2, out ++ [39], by simp [HOL.out], HOY.out.append (by intro z hz; simp at hz; omega), HT2.out, HG.out.1, HG.out.2⟩
                case measure => simp [intOf]; omega
              · have hv : o = some (out, k + 1) := by rw [← HOT.out, tkAt_end zs out k hkz hz (by rw [HL.out]; exact hz2)]
                have HVV := Lib.hid hv
                have hcv := run_string_rd W A' p cap out HOL.out (RdC.own HOWN.out).toB
                have HS : Hid (byt (strOfNums out) = out) := byt_strOfNums out HOY.out
                generalize strOfNums out = ys at *
                rw [hz] at ck
                by_cases hk2 : k + 1 < n
                · have ck2 := hc (k + 1) (by rw [HL.out]; omega)
                  have e39 : (zs.getD (k + 1) 0 == 39) = false := beq_eq_false_iff_ne.2 (fun h => hz2 ⟨hk2, h⟩)
                  have d2 : (k : Int) + 1 < (n : Int) := by omega
                  clear hrw hc hbr h10 h13 e10 e13 hz hz2 hkz hv
                  generalize zs.getD (k + 1) 0 = y at *
                  go_wp2_with fail
                  go_ret3
                  exact ⟨ys, by rw [HVV.out]; exact HS.out, by rw [HVV.out]; simp [tkN], HB.out⟩
                · have d2 : decide ((k : Int) + 1 < (n : Int)) = false := decide_eq_false (by omega)
                  clear hrw hc hbr h10 h13 e10 e13 hz hz2 hkz hv
                  go_wp2_with fail
                  go_ret3
                  exact ⟨ys, by rw [HVV.out]; exact HS.out, by rw [HVV.out]; simp [tkN], HB.out⟩
            · have HT2 : Hid (tkAt zs (out ++ [zs.getD k 0]) (k + 1) = o) := by show _ = _; rw [← HOT.out, tkAt_ne zs out k hkz h10 h13 hz]
              have hzb := HY.out.at_ hkz
              have e39 : (zs.getD k 0 == 39) = false := beq_eq_false_iff_ne.2 hz
              clear hrw hc hbr h10 h13 hz hkz
              generalize zs.getD k 0 = z at *
              obtain ⟨A2, cap2, W2, hrun, g1, g2, _, g4, g5⟩ := one_more w W A' cap p out HOL.out HOWN.out HB.out z (by omega)
              have HRUN := Lib.hid hrun
              have HG := Lib.hid (And.intro g4 g5)
              clear hrun g4 g5
              go_wp2_with (at_builtin; refine wpList_append_known rfl _ (.tmp 50) 22 rfl (.slice A' p cap) (.slice (some ⟨W.heap.size, 0, none⟩) 1 1) _ _ rfl rfl HRUN.out ?_)
              go_roundw
              case rel => exact ⟨k + 1, p + 1, cap2, A2, by omega, by omega, by omega, rfl, rfl, rfl, rfl, by go_num, g1, g2, out ++ [z], by simp [HOL.out], HOY.out.append (by intro y hy; simp at hy; subst hy; exact hzb), HT2.out, HG.out.1, HG.out.2⟩
              case measure => simp [intOf]; omega
        · have hv : o = none := by rw [← HOT.out, tkAt_past zs out k (by rw [HL.out]; omega)]
          subst hv
          have d : decide ((k : Int) < (n : Int)) = false := decide_eq_false (by omega)
          go_wp2_with fail
          go_ret3
          exact ⟨⟨#[]⟩, rfl, rfl, HB.out⟩
    · have hv : o = none := by rw [← ho, takeS, if_neg h0]
      subst hv
      have e39 : (zs.getD 0 0 == 39) = false := beq_eq_false_iff_ne.2 h0
      have B0 : Hid (Below w.heap.size w w) := Below.refl _ _
      clear hl hr hb ho h0 HO hc HL HR HY
      generalize zs.getD 0 0 = z at *
      go_enter Tryd.func14, Tryd.ntmps14
      go_wp2_with fail
      go_ret3
      exact ⟨⟨#[]⟩, rfl, rfl, B0.out⟩
  · obtain rfl : n = 0 := by omega
    have hz : zs = [] := List.eq_nil_of_length_eq_zero hl
    subst hz
    have hv : o = none := by rw [← ho]; rfl
    subst hv
    have B0 : Hid (Below w.heap.size w w) := Below.refl _ _
    clear hl hr hb ho HO HL HR HY
    go_enter Tryd.func14, Tryd.ntmps14
    go_wp2_with fail
    go_ret3
    exact ⟨⟨#[]⟩, rfl, rfl, B0.out⟩

set_option maxHeartbeats 4000000 in
theorem refPut_any (s : ByteArray) (w : World) (hs : s.size ≤ 1000000) (ok : Bool) (hok : inF true s.size (byt s) = ok) :
    Calls Tryd.prog 15 #[.string s] w (PutP (byt s) ok w) := by
  have C := Lib.hid (clean_any s true w hs ok hok)
  clear hok
  cases ok
  · go_enter Tryd.func15, Tryd.ntmps15
    go_wp2_with (go_at_call 20; refine C.out.mono ?_; rintro e w1 ⟨rfl, hb1⟩; have HB1 := Lib.hid hb1; clear hb1)
    go_ret2
    exact ⟨⟨#[]⟩, rfl, rfl, HB1.out⟩
  · go_enter Tryd.func15, Tryd.ntmps15
    go_wp2_with fail
    refine C.out.mono ?_
    rintro e w1 ⟨rfl, hb1⟩
    have HB1 := Lib.hid hb1
    clear hb1 C
    go_wp2_with fail
    go_loopw [4, 5] (fun v i W => ∃ (k p cap : Nat) (A' : Option Addr), k ≤ s.size ∧ p ≤ 1 + 2 * k ∧ v = .slice A' p cap ∧ i = .int .i64 (k : Int) ∧ p ≤ cap ∧ cap ≤ 9223372036854775807 ∧
      Hid ((39 :: dbl ((byt s).take k)).length = p ∧ W.ownsRow w.heap.size 5 1 (.slice A' p cap) p ((39 :: dbl ((byt s).take k)).map (Value.int .u8)) ∧ Below w.heap.size w W)) (fun _ i _ => s.size - (intOf i).toNat)
    case atStart => exact ⟨0, 1, 1, _, by omega, by omega, rfl, rfl, by omega, by omega, rfl, own_one w w1 HB1.out.size 39, HB1.out.alloc HB1.out.size _⟩
    case round =>
      obtain ⟨k, p, cap, A', hk, hpk, rfl, rfl, hpc, hcap, HK⟩ := hrel
      obtain ⟨W, hW⟩ : ∃ x, x = wr := ⟨_, rfl⟩
      subst hW
      obtain ⟨hol, hown, hbel⟩ := HK.out
      have HB := Lib.hid hbel
      have HOL := Lib.hid hol
      have HOWN := Lib.hid hown
      clear hol hown hbel HK
      by_cases hlt : k < s.size
      · have d : (k : Int) < (s.size : Int) := by omega
        have hds := dbl_snoc (byt s) k (by rw [byt_len]; exact hlt)
        have hgs := getD_str s k hlt
        have hzb := (byt_byte s).at_ (k := k) (by rw [byt_len]; exact hlt)
        rw [hgs] at hds hzb
        clear hgs
        have HDS := Lib.hid hds
        clear hds
        by_cases hz : (s[k].toNat : Int) = 39
        · have e39 : ((s[k].toNat : Int) == 39) = true := beq_iff_eq.2 hz
          obtain ⟨A2, cap2, W2, hrun, g1, g2, _, g4, g5⟩ := one_more w W A' cap p _ HOL.out HOWN.out HB.out 39 (by omega)
          obtain ⟨A3, cap3, W3, hrun3, k1, k2, _, k4, k5⟩ := one_more w W2 A2 cap2 (p + 1) _ (by rw [List.length_append, HOL.out]; rfl) g4 g5 (s[k].toNat : Int) (by omega)
          have HX : Hid (39 :: dbl ((byt s).take k) ++ [39] ++ [(s[k].toNat : Int)] = 39 :: dbl ((byt s).take (k + 1))) := by
            show _ = _
            rw [HDS.out, if_pos hz, hz]; simp
          rw [HX.out] at k4
          have HXL : Hid ((39 :: dbl ((byt s).take (k + 1))).length = p + 2) := by
            show _ = _
            rw [← HX.out, List.length_append, List.length_append, HOL.out]; rfl
          have HRUN := Lib.hid hrun
          have HRUN3 := Lib.hid hrun3
          have HG := Lib.hid (And.intro k4 k5)
          clear hz hrun hrun3 g4 g5 k4 k5 HDS HX
          go_wp2_with (at_builtin; first
            | refine wpList_append_known rfl _ (.tmp 21) 22 rfl (.slice A' p cap) (.slice (some ⟨W.heap.size, 0, none⟩) 1 1) _ _ rfl rfl HRUN.out ?_
            | refine wpList_append_known rfl _ (.tmp 27) 22 rfl (.slice A2 (p + 1) cap2) (.slice (some ⟨W2.heap.size, 0, none⟩) 1 1) _ _ rfl rfl HRUN3.out ?_)
          go_roundw
          case rel => exact ⟨k + 1, p + 2, cap3, A3, by omega, by omega, rfl, by go_num, by omega, k2, HXL.out, HG.out.1, HG.out.2⟩
          case measure => simp [intOf]; omega
        · have e39 : ((s[k].toNat : Int) == 39) = false := beq_eq_false_iff_ne.2 hz
          obtain ⟨A3, cap3, W3, hrun3, k1, k2, _, k4, k5⟩ := one_more w W A' cap p _ HOL.out HOWN.out HB.out (s[k].toNat : Int) (by omega)
          have HX : Hid (39 :: dbl ((byt s).take k) ++ [(s[k].toNat : Int)] = 39 :: dbl ((byt s).take (k + 1))) := by
            show _ = _
            rw [HDS.out, if_neg hz]; simp
          rw [HX.out] at k4
          have HXL : Hid ((39 :: dbl ((byt s).take (k + 1))).length = p + 1) := by
            show _ = _
            rw [← HX.out, List.length_append, HOL.out]; rfl
          have HRUN3 := Lib.hid hrun3
          have HG := Lib.hid (And.intro k4 k5)
          clear hz hrun3 k4 k5 HDS HX
          go_wp2_with (at_builtin; refine wpList_append_known rfl _ (.tmp 27) 22 rfl (.slice A' p cap) (.slice (some ⟨W.heap.size, 0, none⟩) 1 1) _ _ rfl rfl HRUN3.out ?_)
          go_roundw
          case rel => exact ⟨k + 1, p + 1, cap3, A3, by omega, by omega, rfl, by go_num, k1, k2, HXL.out, HG.out.1, HG.out.2⟩
          case measure => simp [intOf]; omega
      · obtain rfl : k = s.size := by omega
        have d : decide ((s.size : Int) < (s.size : Int)) = false := decide_eq_false (by omega)
        obtain ⟨A3, cap3, W3, hrun3, k1, k2, _, k4, k5⟩ := one_more w W A' cap p _ HOL.out HOWN.out HB.out 39 (by omega)
        have hx : 39 :: dbl ((byt s).take s.size) ++ [39] = putF (byt s) := by
          rw [List.take_of_length_le (by rw [byt_len]; omega)]; rfl
        rw [hx] at k4
        have hxb : Byte (putF (byt s)) := by
          intro z hz
          simp [putF] at hz
          rcases hz with rfl | hz | rfl
          · omega
          · exact dbl_byte _ (byt_byte s) z hz
          · omega
        have hxl : (putF (byt s)).length = p + 1 := by rw [← hx, List.length_append, HOL.out]; rfl
        have hcv := run_string_rd W3 A3 (p + 1) cap3 (putF (byt s)) hxl (RdC.own k4).toB
        have HS : Hid (byt (strOfNums (putF (byt s))) = putF (byt s)) := byt_strOfNums _ hxb
        have HRUN3 := Lib.hid hrun3
        have HG := Lib.hid k5
        generalize strOfNums (putF (byt s)) = y at *
        clear hrun3 k4 k5 hx hxb hxl
        go_wp2_with (at_builtin; refine wpList_append_known rfl _ (.tmp 30) 22 rfl (.slice A' p cap) (.slice (some ⟨W.heap.size, 0, none⟩) 1 1) _ _ rfl rfl HRUN3.out ?_)
        go_ret2
        exact ⟨y, HS.out, rfl, HG.out⟩
end Go.Proofs.YtfapjbklkfdnhaaDoor
