/- The document's TakeDouble. -/
import Derived.Test.YtgiloooandiokaaDoorDbRef
import Derived.Test.YtgiloooandiokaaDoorDbTake
namespace Go.Proofs.YtgiloooandiokaaDoor
open Go.RowKit
set_option linter.unusedVariables false

/-- Bytes that are read put behind bytes of our own. -/
theorem rd_more (w W : World) (A : Option Addr) (cap p : Nat) (out : List Int) (hown : W.ownsRow w.heap.size 5 1 (.slice A p cap) p (out.map (Value.int .u8))) (hb : Below w.heap.size w W)
    (B : Option Addr) (m c : Nat) (zs : List Int) (hm : zs.length = m) (hr : RdB W B zs) (hsz : p + m ≤ 1000000000) :
    ∃ A' cap' W', (Builtin.append_ #[26, 26] 26 #[.slice A p cap, .slice B m c]).run Tryd.prog W = .ok (.slice A' (p + m) cap') W' ∧
      p + m ≤ cap' ∧ cap' ≤ 9223372036854775807 ∧ (A' = none → cap' = 0) ∧ W'.ownsRow w.heap.size 5 1 (.slice A' (p + m) cap') (p + m) ((out ++ zs).map (Value.int .u8)) ∧ Below w.heap.size w W' := by
  obtain ⟨v', W', hrun, ho, hg, hv⟩ := run_append_bytes W w.heap.size _ p out hown hb.size B m c zs hm hr hsz
  obtain ⟨A', cap', rfl, h1, h2, h3⟩ := own_form ho
  exact ⟨A', cap', W', hrun, h1, h2, h3, ho, hb.grown hg hb.size (own_base hown)⟩
theorem numO_bad {q : Int} (d : Nat) (h : okR q = false) : numO d (some q) = none := by simp only [numO]; rw [h]; rfl
theorem numO_good {q : Int} (d : Nat) (h : okR q = true) : numO d (some q) = some (q, 1 + d) := by simp only [numO]; rw [h]; rfl
theorem esc1_none {c : Int} {t : List Int} (h : esc1 c < 0) (h0 : 0 ≤ c) (n3 : c ≠ 120) (n4 : c ≠ 117) (n5 : c ≠ 85) : escF (c :: t) = none := by
  unfold esc1 at h
  simp only [escF]
  split at h
  · omega
  · rename_i hn
    rw [if_neg hn, if_neg n3, if_neg n4, if_neg n5]
    cases he : escL c with
    | none => rfl
    | some r =>
      rw [he] at h
      have := okR_parts (shL_ok _ (escL_mem he)).1
      simp at h
      simp at this
      omega
theorem esc1_some {c : Int} {t : List Int} (h : 0 ≤ esc1 c) (n3 : c ≠ 120) (n4 : c ≠ 117) (n5 : c ≠ 85) : escF (c :: t) = some (esc1 c, 1) := by
  unfold esc1 at h ⊢
  simp only [escF]
  split
  · rfl
  · rename_i hn
    rw [if_neg hn] at h
    cases he : escL c with
    | none => rw [he] at h; simp at h
    | some r => simp

set_option maxHeartbeats 8000000 in
set_option maxRecDepth 100000 in
theorem refTake_any (A : Option Addr) (n c : Nat) (zs : List Int) (w : World) (hl : zs.length = n) (hnc : n ≤ c) (hm : c ≤ 9223372036854775807) (hn : n ≤ 1000000) (hb : Byte zs) (hr : RdB w A zs) (o : Option (List Int × Nat)) (ho : takeD zs = o) :
    Calls Tryd.prog 16 #[.slice A n c] w (TakeP o w) := by
  have HL := Lib.hid hl
  have HR := Lib.hid hr
  have HY := Lib.hid hb
  have HO := Lib.hid ho
  by_cases hn0 : 0 < n
  · obtain ⟨b, off, rfl, hc⟩ := hr.addr (by omega)
    have c0 := hc 0 (by omega)
    rw [Nat.add_zero] at c0
    have d0 : ((n : Int) == 0) = false := beq_eq_false_iff_ne.2 (by omega)
    have d0' : (0 : Int) < (n : Int) := by omega
    by_cases h0 : zs.getD 0 0 = 34
    · have HT : Hid (dqAt zs [] 1 = o) := by show _ = _; rw [← ho, takeD, if_pos h0]
      rw [h0] at c0
      have B0 : Hid (Below w.heap.size w w) := Below.refl _ _
      clear hl hr hb ho h0 HO hc
      go_enter Tryd.func16, Tryd.ntmps16
      go_wp2_with fail
      clear c0
      go_loopw [2, 3, 4, 5, 6] (fun r1 r2 r3 v i W => ∃ (k p cap : Nat) (A' : Option Addr), 1 ≤ k ∧ k ≤ n ∧ p ≤ 4 * k ∧ r1 = .string ⟨#[]⟩ ∧ r2 = .int .i64 0 ∧ r3 = .bool false ∧ v = .slice A' p cap ∧ i = .int .i64 (k : Int) ∧ p ≤ cap ∧ cap ≤ 9223372036854775807 ∧
        Hid (∃ out : List Int, out.length = p ∧ Byte out ∧ dqAt zs out k = o ∧ W.ownsRow w.heap.size 5 1 (.slice A' p cap) p (out.map (Value.int .u8)) ∧ Below w.heap.size w W)) (fun _ _ _ _ i _ => n - (intOf i).toNat)
      case atStart => exact ⟨1, 0, 0, none, by omega, by omega, by omega, rfl, rfl, rfl, rfl, rfl, by omega, by omega, [], rfl, (fun z hz => by cases hz), HT.out, own_nil _ _ _ _, B0.out⟩
      case round =>
        obtain ⟨k, p, cap, A', hk1, hk, hpk, rfl, rfl, rfl, rfl, rfl, hpc, hcap, HK⟩ := hrel
        obtain ⟨W, hW⟩ : ∃ x, x = wr := ⟨_, rfl⟩
        subst hW
        obtain ⟨out, hol, hoy, hot, hown, hbel⟩ := HK.out
        have HB := Lib.hid hbel
        have HOL := Lib.hid hol
        have HOY := Lib.hid hoy
        have HOT := Lib.hid hot
        have HOWN := Lib.hid hown
        clear hol hoy hot hown hbel HK
        by_cases hlt : k < n
        · have hkz : k < zs.length := by rw [HL.out]; exact hlt
          have hrw := HR.out.below HB.out
          obtain ⟨b', off', e', hc⟩ := hrw.addr (by rw [HL.out]; omega)
          injection e' with e'
          injection e' with e1 e2
          subst e1 e2
          have ck := hc k hkz
          have d : (k : Int) < (n : Int) := by omega
          by_cases hbr : zs.getD k 0 = 10 ∨ zs.getD k 0 = 13
          · have hv : o = none := by rw [← HOT.out, dqAt_brk zs out k hkz hbr]
            subst hv
            clear hrw hc
            rcases hbr with hz | hz
            · rw [hz] at ck
              clear hz hkz
              go_wp2_with fail
              go_ret3
              exact ⟨⟨#[]⟩, rfl, rfl, HB.out⟩
            · rw [hz] at ck
              clear hz hkz
              go_wp2_with fail
              go_ret3
              exact ⟨⟨#[]⟩, rfl, rfl, HB.out⟩
          have h10 : zs.getD k 0 ≠ 10 := fun h => hbr (.inl h)
          have h13 : zs.getD k 0 ≠ 13 := fun h => hbr (.inr h)
          have e10 : (zs.getD k 0 == 10) = false := beq_eq_false_iff_ne.2 h10
          have e13 : (zs.getD k 0 == 13) = false := beq_eq_false_iff_ne.2 h13
          by_cases hq : zs.getD k 0 = 34
          · have hv : o = some (out, k + 1) := by rw [← HOT.out, dqAt_end zs out k hkz hq]
            have HVV := Lib.hid hv
            have hcv := run_string_rd W A' p cap out HOL.out (RdC.own HOWN.out).toB
            have HX : Hid (byt (strOfNums out) = out) := byt_strOfNums out HOY.out
            generalize strOfNums out = ys at *
            rw [hq] at ck
            clear hrw hc hq hkz hv hbr h10 h13 e10 e13
            go_wp2_with fail
            go_ret3
            exact ⟨ys, by rw [HVV.out]; exact HX.out, by rw [HVV.out]; simp [tkN], HB.out⟩
          have e34 : (zs.getD k 0 == 34) = false := beq_eq_false_iff_ne.2 hq
          by_cases h92 : zs.getD k 0 = 92
          · rw [h92] at ck
            clear hbr h10 h13 e10 e13 hq e34
            by_cases hk2 : k + 1 < n
            · have hkz2 : k + 1 < zs.length := by rw [HL.out]; exact hk2
              have ck2 := hc (k + 1) hkz2
              have hcb := HY.out.at_ hkz2
              have hcb1 := hcb.1
              have hcb2 := hcb.2
              have d2 : decide ((n : Int) ≤ (k : Int) + 1) = false := decide_eq_false (by omega)
              have d2' : (k : Int) + 1 < (n : Int) := by omega
              have hdr := drop_at zs (k + 1) hkz2
              obtain ⟨x, hx⟩ : ∃ x, zs.getD (k + 1) 0 = x := ⟨_, rfl⟩
              rw [hx] at ck2 hcb1 hcb2 hdr
              clear hx hcb
              by_cases n3 : x = 120
              · subst n3
                have hes : escF (zs.drop (k + 1)) = numF 2 (zs.drop (k + 1)) := by rw [hdr]; rfl
                have HC2 : Hid (∀ j, k + 2 + j < n → ∃ z, (zs.drop (k + 2))[j]? = some z ∧ 0 ≤ z ∧ z < 256 ∧ W.cell? ⟨b, off + (k + 2 + j), none⟩ = some (.int .u8 z)) := by
                  intro j hj
                  have hjz : k + 2 + j < zs.length := by rw [HL.out]; exact hj
                  exact ⟨_, by rw [List.getElem?_drop]; exact getD_at hjz, (HY.out.at_ hjz).1, (HY.out.at_ hjz).2, hc _ hjz⟩
                have HNS : Hid (n ≤ k + 1 + 2 → o = none) := by
                  intro hsh
                  rw [← HOT.out, dqAt_bad zs out k hkz h92 (by rw [hes, numF, if_pos (by rw [List.length_drop, HL.out]; omega)])]
                have HNV : Hid (k + 1 + 2 < n → ∀ q, hexV 0 ((zs.drop (k + 2)).take 2) = q → numO 2 q = escF (zs.drop (k + 1))) := by
                  intro hsh q hq
                  rw [hes, numF, if_neg (by rw [List.length_drop, HL.out]; omega), List.drop_drop, hq]
                have HBAD : Hid (escF (zs.drop (k + 1)) = none → o = none) := fun he => by rw [← HOT.out, dqAt_bad zs out k hkz h92 he]
                have HGOOD : Hid (∀ r m, escF (zs.drop (k + 1)) = some (r, m) → dqAt zs (out ++ utfF r) (k + (1 + m)) = o) := fun r m he => by rw [← dqAt_esc zs out k hkz h92 r m he, HOT.out]
                clear hrw hc hdr hes hkz hkz2 h92
                generalize zs.drop (k + 2) = T at *
                generalize escF (zs.drop (k + 1)) = eo at *
                go_wp2_with fail
                go_loop [2, 3, 4, 10, 11] (fun r1 r2 r3 r i => ∃ (j : Nat) (q : Int), j ≤ 2 ∧ i = .int .i64 (j : Int) ∧ r = .int .i64 q ∧ r1 = .string ⟨#[]⟩ ∧ r2 = .int .i64 0 ∧ r3 = .bool false ∧ Hid (hexV 0 (T.take j) = some q ∧ k + 1 + j < n)) (fun _ _ _ _ i => 2 - (intOf i).toNat)
                case atStart => exact ⟨0, 0, by omega, rfl, rfl, rfl, rfl, rfl, rfl, by omega⟩
                case round =>
                  obtain ⟨j, q, hj, rfl, rfl, rfl, rfl, rfl, HQ⟩ := hrel
                  by_cases hjd : j < 2
                  · have dj : (j : Int) < 2 := by omega
                    by_cases hjn : k + 2 + j < n
                    · have dn : decide ((n : Int) ≤ (k : Int) + 2 + (j : Int)) = false := decide_eq_false (by omega)
                      have dn' : (k : Int) + 2 + (j : Int) < (n : Int) := by omega
                      obtain ⟨z, hz, hz0, hz1, cz⟩ := HC2.out j hjn
                      have hst := hexV_step T j z q hz HQ.out.1
                      have hq0 : 0 ≤ q ∧ q < 268435456 := (hexV_lt _ q HQ.out.1).1 (by rw [List.length_take]; omega)
                      have hq1 := hq0.1
                      have hq2 := hq0.2
                      clear hq0 hz
                      cases hd : hexD z with
                      | none =>
                        have hv : o = none := by
                          by_cases hsh : n ≤ k + 1 + 2
                          · exact HNS.out hsh
                          · refine HBAD.out ?_
                            rw [← HNV.out (by omega) _ (hexV_stop T (j + 1) 2 hjd (by rw [hst, hd]))]; rfl
                        subst hv
                        have HD := Lib.hid hd
                        clear hst hd HQ
                        go_wp2_with (go_at_call 26; refine (refDigit_any _ (by omega) (by omega) _ _ HD.out).mono ?_; rintro e w' ⟨rfl, rfl⟩)
                        go_ret3
                        exact ⟨⟨#[]⟩, rfl, rfl, HB.out⟩
                      | some y =>
                        have hy := hexD_bd hd
                        have hy1 := hy.1
                        have hy2 := hy.2
                        rw [hd] at hst
                        have HST : Hid (hexV 0 (T.take (j + 1)) = some (q * 16 + y)) := hst
                        have HD := Lib.hid hd
                        have dy : decide (y < 0) = false := decide_eq_false (by omega)
                        clear hst hd hy HQ
                        go_wp2_with (go_at_call 26; refine (refDigit_any _ (by omega) (by omega) _ _ HD.out).mono ?_; rintro e w' ⟨rfl, rfl⟩)
                        go_round
                        case rel => exact ⟨j + 1, q * 16 + y, by omega, by go_num, by go_num, rfl, rfl, rfl, HST.out, by omega⟩
                        case measure => simp [intOf]; omega
                    · have dn : (n : Int) ≤ (k : Int) + 2 + (j : Int) := by omega
                      have hv : o = none := HNS.out (by omega)
                      subst hv
                      go_wp2_with fail
                      go_ret3
                      exact ⟨⟨#[]⟩, rfl, rfl, HB.out⟩
                  · obtain rfl : j = 2 := by omega
                    have hkn := HQ.out.2
                    have hev := HNV.out hkn _ HQ.out.1
                    have hq0 : 0 ≤ q ∧ q < 4294967296 := (hexV_lt _ q HQ.out.1).2 (by rw [List.length_take]; omega)
                    have hq1 := hq0.1
                    have hq2 := hq0.2
                    clear hq0 HNS HNV HQ HC2
                    cases hok : okR q
                    · have hv : o = none := HBAD.out (by rw [← hev]; exact numO_bad _ hok)
                      subst hv
                      have hw : 1114111 < q ∨ (55296 ≤ q ∧ q ≤ 57343) := by
                        unfold okR surr at hok
                        simp at hok
                        omega
                      clear hev hok HBAD HGOOD
                      rcases hw with hw | ⟨hw1, hw2⟩
                      · go_wp2_with fail
                        go_ret3
                        exact ⟨⟨#[]⟩, rfl, rfl, HB.out⟩
                      · have hw3 : decide (1114111 < q) = false := decide_eq_false (by omega)
                        go_wp2_with fail
                        go_ret3
                        exact ⟨⟨#[]⟩, rfl, rfl, HB.out⟩
                    · have hT2 := HGOOD.out q (1 + 2) (by rw [← hev]; exact numO_good _ hok)
                      have HT2 := Lib.hid hT2
                      have HOK := Lib.hid hok
                      have hp := okR_parts hok
                      have hw1 : decide (1114111 < q) = false := decide_eq_false (by omega)
                      have hw5 : q ≤ 1114111 := hp.2.1
                      have hw2 : q < 55296 ∨ 57343 < q := by have := hp.2.2; unfold surr at this; simp at this; omega
                      have hul := utfF_len q
                      have hul2 := hul.2
                      have HUB : Hid (Byte (utfF q)) := utfF_byte hok
                      clear hT2 hev hok HBAD HGOOD hp hul
                      rcases hw2 with hw2 | hw2
                      · have hw3 : decide (55296 ≤ q) = false := decide_eq_false (by omega)
                        go_wp2_with fail
                        refine (refUtf8_any q W HOK.out).mono ?_
                        rintro e W2 ⟨Au, L, capu, rfl, hLu, _, _, _, hru, hb2⟩
                        obtain ⟨A3, cap3, W3, hrun3, g1, g2, _, g4, g5⟩ := rd_more w W2 A' cap p out (own_below HOWN.out hb2) (below_step HB.out hb2) Au L capu (utfF q) hLu hru (by omega)
                        have HRUN := Lib.hid hrun3
                        have HG := Lib.hid (And.intro g4 g5)
                        have HLL := Lib.hid hLu
                        have hL4 : L ≤ 4 := by omega
                        clear hrun3 g4 g5 hru hb2 hLu
                        go_wp2_with (at_builtin; refine wpList_append_known rfl (.tmp 125) (.tmp 128) 26 rfl (.slice A' p cap) (.slice Au L capu) _ _ rfl rfl HRUN.out ?_; clear HRUN)
                        exact ⟨⟨k + (1 + (1 + 2)), p + L, cap3, A3, by omega, by omega, by omega, rfl, rfl, rfl, rfl, congrArg (Value.int .i64) (by omega), g1, g2, out ++ utfF q, by rw [List.length_append, HOL.out, HLL.out], HOY.out.append HUB.out, HT2.out, HG.out.1, HG.out.2⟩, by simp only [intOf]; omega⟩
                      · have hw3 : decide (q ≤ 57343) = false := decide_eq_false (by omega)
                        have hw4 : 55296 ≤ q := by omega
                        go_wp2_with fail
                        refine (refUtf8_any q W HOK.out).mono ?_
                        rintro e W2 ⟨Au, L, capu, rfl, hLu, _, _, _, hru, hb2⟩
                        obtain ⟨A3, cap3, W3, hrun3, g1, g2, _, g4, g5⟩ := rd_more w W2 A' cap p out (own_below HOWN.out hb2) (below_step HB.out hb2) Au L capu (utfF q) hLu hru (by omega)
                        have HRUN := Lib.hid hrun3
                        have HG := Lib.hid (And.intro g4 g5)
                        have HLL := Lib.hid hLu
                        have hL4 : L ≤ 4 := by omega
                        clear hrun3 g4 g5 hru hb2 hLu
                        go_wp2_with (at_builtin; refine wpList_append_known rfl (.tmp 125) (.tmp 128) 26 rfl (.slice A' p cap) (.slice Au L capu) _ _ rfl rfl HRUN.out ?_; clear HRUN)
                        exact ⟨⟨k + (1 + (1 + 2)), p + L, cap3, A3, by omega, by omega, by omega, rfl, rfl, rfl, rfl, congrArg (Value.int .i64) (by omega), g1, g2, out ++ utfF q, by rw [List.length_append, HOL.out, HLL.out], HOY.out.append HUB.out, HT2.out, HG.out.1, HG.out.2⟩, by simp only [intOf]; omega⟩
              by_cases n4 : x = 117
              · subst n4
                have hes : escF (zs.drop (k + 1)) = numF 4 (zs.drop (k + 1)) := by rw [hdr]; rfl
                have HC2 : Hid (∀ j, k + 2 + j < n → ∃ z, (zs.drop (k + 2))[j]? = some z ∧ 0 ≤ z ∧ z < 256 ∧ W.cell? ⟨b, off + (k + 2 + j), none⟩ = some (.int .u8 z)) := by
                  intro j hj
                  have hjz : k + 2 + j < zs.length := by rw [HL.out]; exact hj
                  exact ⟨_, by rw [List.getElem?_drop]; exact getD_at hjz, (HY.out.at_ hjz).1, (HY.out.at_ hjz).2, hc _ hjz⟩
                have HNS : Hid (n ≤ k + 1 + 4 → o = none) := by
                  intro hsh
                  rw [← HOT.out, dqAt_bad zs out k hkz h92 (by rw [hes, numF, if_pos (by rw [List.length_drop, HL.out]; omega)])]
                have HNV : Hid (k + 1 + 4 < n → ∀ q, hexV 0 ((zs.drop (k + 2)).take 4) = q → numO 4 q = escF (zs.drop (k + 1))) := by
                  intro hsh q hq
                  rw [hes, numF, if_neg (by rw [List.length_drop, HL.out]; omega), List.drop_drop, hq]
                have HBAD : Hid (escF (zs.drop (k + 1)) = none → o = none) := fun he => by rw [← HOT.out, dqAt_bad zs out k hkz h92 he]
                have HGOOD : Hid (∀ r m, escF (zs.drop (k + 1)) = some (r, m) → dqAt zs (out ++ utfF r) (k + (1 + m)) = o) := fun r m he => by rw [← dqAt_esc zs out k hkz h92 r m he, HOT.out]
                clear hrw hc hdr hes hkz hkz2 h92
                generalize zs.drop (k + 2) = T at *
                generalize escF (zs.drop (k + 1)) = eo at *
                go_wp2_with fail
                go_loop [2, 3, 4, 10, 11] (fun r1 r2 r3 r i => ∃ (j : Nat) (q : Int), j ≤ 4 ∧ i = .int .i64 (j : Int) ∧ r = .int .i64 q ∧ r1 = .string ⟨#[]⟩ ∧ r2 = .int .i64 0 ∧ r3 = .bool false ∧ Hid (hexV 0 (T.take j) = some q ∧ k + 1 + j < n)) (fun _ _ _ _ i => 4 - (intOf i).toNat)
                case atStart => exact ⟨0, 0, by omega, rfl, rfl, rfl, rfl, rfl, rfl, by omega⟩
                case round =>
                  obtain ⟨j, q, hj, rfl, rfl, rfl, rfl, rfl, HQ⟩ := hrel
                  by_cases hjd : j < 4
                  · have dj : (j : Int) < 4 := by omega
                    by_cases hjn : k + 2 + j < n
                    · have dn : decide ((n : Int) ≤ (k : Int) + 2 + (j : Int)) = false := decide_eq_false (by omega)
                      have dn' : (k : Int) + 2 + (j : Int) < (n : Int) := by omega
                      obtain ⟨z, hz, hz0, hz1, cz⟩ := HC2.out j hjn
                      have hst := hexV_step T j z q hz HQ.out.1
                      have hq0 : 0 ≤ q ∧ q < 268435456 := (hexV_lt _ q HQ.out.1).1 (by rw [List.length_take]; omega)
                      have hq1 := hq0.1
                      have hq2 := hq0.2
                      clear hq0 hz
                      cases hd : hexD z with
                      | none =>
                        have hv : o = none := by
                          by_cases hsh : n ≤ k + 1 + 4
                          · exact HNS.out hsh
                          · refine HBAD.out ?_
                            rw [← HNV.out (by omega) _ (hexV_stop T (j + 1) 4 hjd (by rw [hst, hd]))]; rfl
                        subst hv
                        have HD := Lib.hid hd
                        clear hst hd HQ
                        go_wp2_with (go_at_call 26; refine (refDigit_any _ (by omega) (by omega) _ _ HD.out).mono ?_; rintro e w' ⟨rfl, rfl⟩)
                        go_ret3
                        exact ⟨⟨#[]⟩, rfl, rfl, HB.out⟩
                      | some y =>
                        have hy := hexD_bd hd
                        have hy1 := hy.1
                        have hy2 := hy.2
                        rw [hd] at hst
                        have HST : Hid (hexV 0 (T.take (j + 1)) = some (q * 16 + y)) := hst
                        have HD := Lib.hid hd
                        have dy : decide (y < 0) = false := decide_eq_false (by omega)
                        clear hst hd hy HQ
                        go_wp2_with (go_at_call 26; refine (refDigit_any _ (by omega) (by omega) _ _ HD.out).mono ?_; rintro e w' ⟨rfl, rfl⟩)
                        go_round
                        case rel => exact ⟨j + 1, q * 16 + y, by omega, by go_num, by go_num, rfl, rfl, rfl, HST.out, by omega⟩
                        case measure => simp [intOf]; omega
                    · have dn : (n : Int) ≤ (k : Int) + 2 + (j : Int) := by omega
                      have hv : o = none := HNS.out (by omega)
                      subst hv
                      go_wp2_with fail
                      go_ret3
                      exact ⟨⟨#[]⟩, rfl, rfl, HB.out⟩
                  · obtain rfl : j = 4 := by omega
                    have hkn := HQ.out.2
                    have hev := HNV.out hkn _ HQ.out.1
                    have hq0 : 0 ≤ q ∧ q < 4294967296 := (hexV_lt _ q HQ.out.1).2 (by rw [List.length_take]; omega)
                    have hq1 := hq0.1
                    have hq2 := hq0.2
                    clear hq0 HNS HNV HQ HC2
                    cases hok : okR q
                    · have hv : o = none := HBAD.out (by rw [← hev]; exact numO_bad _ hok)
                      subst hv
                      have hw : 1114111 < q ∨ (55296 ≤ q ∧ q ≤ 57343) := by
                        unfold okR surr at hok
                        simp at hok
                        omega
                      clear hev hok HBAD HGOOD
                      rcases hw with hw | ⟨hw1, hw2⟩
                      · go_wp2_with fail
                        go_ret3
                        exact ⟨⟨#[]⟩, rfl, rfl, HB.out⟩
                      · have hw3 : decide (1114111 < q) = false := decide_eq_false (by omega)
                        go_wp2_with fail
                        go_ret3
                        exact ⟨⟨#[]⟩, rfl, rfl, HB.out⟩
                    · have hT2 := HGOOD.out q (1 + 4) (by rw [← hev]; exact numO_good _ hok)
                      have HT2 := Lib.hid hT2
                      have HOK := Lib.hid hok
                      have hp := okR_parts hok
                      have hw1 : decide (1114111 < q) = false := decide_eq_false (by omega)
                      have hw5 : q ≤ 1114111 := hp.2.1
                      have hw2 : q < 55296 ∨ 57343 < q := by have := hp.2.2; unfold surr at this; simp at this; omega
                      have hul := utfF_len q
                      have hul2 := hul.2
                      have HUB : Hid (Byte (utfF q)) := utfF_byte hok
                      clear hT2 hev hok HBAD HGOOD hp hul
                      rcases hw2 with hw2 | hw2
                      · have hw3 : decide (55296 ≤ q) = false := decide_eq_false (by omega)
                        go_wp2_with fail
                        refine (refUtf8_any q W HOK.out).mono ?_
                        rintro e W2 ⟨Au, L, capu, rfl, hLu, _, _, _, hru, hb2⟩
                        obtain ⟨A3, cap3, W3, hrun3, g1, g2, _, g4, g5⟩ := rd_more w W2 A' cap p out (own_below HOWN.out hb2) (below_step HB.out hb2) Au L capu (utfF q) hLu hru (by omega)
                        have HRUN := Lib.hid hrun3
                        have HG := Lib.hid (And.intro g4 g5)
                        have HLL := Lib.hid hLu
                        have hL4 : L ≤ 4 := by omega
                        clear hrun3 g4 g5 hru hb2 hLu
                        go_wp2_with (at_builtin; refine wpList_append_known rfl (.tmp 125) (.tmp 128) 26 rfl (.slice A' p cap) (.slice Au L capu) _ _ rfl rfl HRUN.out ?_; clear HRUN)
                        exact ⟨⟨k + (1 + (1 + 4)), p + L, cap3, A3, by omega, by omega, by omega, rfl, rfl, rfl, rfl, congrArg (Value.int .i64) (by omega), g1, g2, out ++ utfF q, by rw [List.length_append, HOL.out, HLL.out], HOY.out.append HUB.out, HT2.out, HG.out.1, HG.out.2⟩, by simp only [intOf]; omega⟩
                      · have hw3 : decide (q ≤ 57343) = false := decide_eq_false (by omega)
                        have hw4 : 55296 ≤ q := by omega
                        go_wp2_with fail
                        refine (refUtf8_any q W HOK.out).mono ?_
                        rintro e W2 ⟨Au, L, capu, rfl, hLu, _, _, _, hru, hb2⟩
                        obtain ⟨A3, cap3, W3, hrun3, g1, g2, _, g4, g5⟩ := rd_more w W2 A' cap p out (own_below HOWN.out hb2) (below_step HB.out hb2) Au L capu (utfF q) hLu hru (by omega)
                        have HRUN := Lib.hid hrun3
                        have HG := Lib.hid (And.intro g4 g5)
                        have HLL := Lib.hid hLu
                        have hL4 : L ≤ 4 := by omega
                        clear hrun3 g4 g5 hru hb2 hLu
                        go_wp2_with (at_builtin; refine wpList_append_known rfl (.tmp 125) (.tmp 128) 26 rfl (.slice A' p cap) (.slice Au L capu) _ _ rfl rfl HRUN.out ?_; clear HRUN)
                        exact ⟨⟨k + (1 + (1 + 4)), p + L, cap3, A3, by omega, by omega, by omega, rfl, rfl, rfl, rfl, congrArg (Value.int .i64) (by omega), g1, g2, out ++ utfF q, by rw [List.length_append, HOL.out, HLL.out], HOY.out.append HUB.out, HT2.out, HG.out.1, HG.out.2⟩, by simp only [intOf]; omega⟩
              by_cases n5 : x = 85
              · subst n5
                have hes : escF (zs.drop (k + 1)) = numF 8 (zs.drop (k + 1)) := by rw [hdr]; rfl
                have HC2 : Hid (∀ j, k + 2 + j < n → ∃ z, (zs.drop (k + 2))[j]? = some z ∧ 0 ≤ z ∧ z < 256 ∧ W.cell? ⟨b, off + (k + 2 + j), none⟩ = some (.int .u8 z)) := by
                  intro j hj
                  have hjz : k + 2 + j < zs.length := by rw [HL.out]; exact hj
                  exact ⟨_, by rw [List.getElem?_drop]; exact getD_at hjz, (HY.out.at_ hjz).1, (HY.out.at_ hjz).2, hc _ hjz⟩
                have HNS : Hid (n ≤ k + 1 + 8 → o = none) := by
                  intro hsh
                  rw [← HOT.out, dqAt_bad zs out k hkz h92 (by rw [hes, numF, if_pos (by rw [List.length_drop, HL.out]; omega)])]
                have HNV : Hid (k + 1 + 8 < n → ∀ q, hexV 0 ((zs.drop (k + 2)).take 8) = q → numO 8 q = escF (zs.drop (k + 1))) := by
                  intro hsh q hq
                  rw [hes, numF, if_neg (by rw [List.length_drop, HL.out]; omega), List.drop_drop, hq]
                have HBAD : Hid (escF (zs.drop (k + 1)) = none → o = none) := fun he => by rw [← HOT.out, dqAt_bad zs out k hkz h92 he]
                have HGOOD : Hid (∀ r m, escF (zs.drop (k + 1)) = some (r, m) → dqAt zs (out ++ utfF r) (k + (1 + m)) = o) := fun r m he => by rw [← dqAt_esc zs out k hkz h92 r m he, HOT.out]
                clear hrw hc hdr hes hkz hkz2 h92
                generalize zs.drop (k + 2) = T at *
                generalize escF (zs.drop (k + 1)) = eo at *
                go_wp2_with fail
                go_loop [2, 3, 4, 10, 11] (fun r1 r2 r3 r i => ∃ (j : Nat) (q : Int), j ≤ 8 ∧ i = .int .i64 (j : Int) ∧ r = .int .i64 q ∧ r1 = .string ⟨#[]⟩ ∧ r2 = .int .i64 0 ∧ r3 = .bool false ∧ Hid (hexV 0 (T.take j) = some q ∧ k + 1 + j < n)) (fun _ _ _ _ i => 8 - (intOf i).toNat)
                case atStart => exact ⟨0, 0, by omega, rfl, rfl, rfl, rfl, rfl, rfl, by omega⟩
                case round =>
                  obtain ⟨j, q, hj, rfl, rfl, rfl, rfl, rfl, HQ⟩ := hrel
                  by_cases hjd : j < 8
                  · have dj : (j : Int) < 8 := by omega
                    by_cases hjn : k + 2 + j < n
                    · have dn : decide ((n : Int) ≤ (k : Int) + 2 + (j : Int)) = false := decide_eq_false (by omega)
                      have dn' : (k : Int) + 2 + (j : Int) < (n : Int) := by omega
                      obtain ⟨z, hz, hz0, hz1, cz⟩ := HC2.out j hjn
                      have hst := hexV_step T j z q hz HQ.out.1
                      have hq0 : 0 ≤ q ∧ q < 268435456 := (hexV_lt _ q HQ.out.1).1 (by rw [List.length_take]; omega)
                      have hq1 := hq0.1
                      have hq2 := hq0.2
                      clear hq0 hz
                      cases hd : hexD z with
                      | none =>
                        have hv : o = none := by
                          by_cases hsh : n ≤ k + 1 + 8
                          · exact HNS.out hsh
                          · refine HBAD.out ?_
                            rw [← HNV.out (by omega) _ (hexV_stop T (j + 1) 8 hjd (by rw [hst, hd]))]; rfl
                        subst hv
                        have HD := Lib.hid hd
                        clear hst hd HQ
                        go_wp2_with (go_at_call 26; refine (refDigit_any _ (by omega) (by omega) _ _ HD.out).mono ?_; rintro e w' ⟨rfl, rfl⟩)
                        go_ret3
                        exact ⟨⟨#[]⟩, rfl, rfl, HB.out⟩
                      | some y =>
                        have hy := hexD_bd hd
                        have hy1 := hy.1
                        have hy2 := hy.2
                        rw [hd] at hst
                        have HST : Hid (hexV 0 (T.take (j + 1)) = some (q * 16 + y)) := hst
                        have HD := Lib.hid hd
                        have dy : decide (y < 0) = false := decide_eq_false (by omega)
                        clear hst hd hy HQ
                        go_wp2_with (go_at_call 26; refine (refDigit_any _ (by omega) (by omega) _ _ HD.out).mono ?_; rintro e w' ⟨rfl, rfl⟩)
                        go_round
                        case rel => exact ⟨j + 1, q * 16 + y, by omega, by go_num, by go_num, rfl, rfl, rfl, HST.out, by omega⟩
                        case measure => simp [intOf]; omega
                    · have dn : (n : Int) ≤ (k : Int) + 2 + (j : Int) := by omega
                      have hv : o = none := HNS.out (by omega)
                      subst hv
                      go_wp2_with fail
                      go_ret3
                      exact ⟨⟨#[]⟩, rfl, rfl, HB.out⟩
                  · obtain rfl : j = 8 := by omega
                    have hkn := HQ.out.2
                    have hev := HNV.out hkn _ HQ.out.1
                    have hq0 : 0 ≤ q ∧ q < 4294967296 := (hexV_lt _ q HQ.out.1).2 (by rw [List.length_take]; omega)
                    have hq1 := hq0.1
                    have hq2 := hq0.2
                    clear hq0 HNS HNV HQ HC2
                    cases hok : okR q
                    · have hv : o = none := HBAD.out (by rw [← hev]; exact numO_bad _ hok)
                      subst hv
                      have hw : 1114111 < q ∨ (55296 ≤ q ∧ q ≤ 57343) := by
                        unfold okR surr at hok
                        simp at hok
                        omega
                      clear hev hok HBAD HGOOD
                      rcases hw with hw | ⟨hw1, hw2⟩
                      · go_wp2_with fail
                        go_ret3
                        exact ⟨⟨#[]⟩, rfl, rfl, HB.out⟩
                      · have hw3 : decide (1114111 < q) = false := decide_eq_false (by omega)
                        go_wp2_with fail
                        go_ret3
                        exact ⟨⟨#[]⟩, rfl, rfl, HB.out⟩
                    · have hT2 := HGOOD.out q (1 + 8) (by rw [← hev]; exact numO_good _ hok)
                      have HT2 := Lib.hid hT2
                      have HOK := Lib.hid hok
                      have hp := okR_parts hok
                      have hw1 : decide (1114111 < q) = false := decide_eq_false (by omega)
                      have hw5 : q ≤ 1114111 := hp.2.1
                      have hw2 : q < 55296 ∨ 57343 < q := by have := hp.2.2; unfold surr at this; simp at this; omega
                      have hul := utfF_len q
                      have hul2 := hul.2
                      have HUB : Hid (Byte (utfF q)) := utfF_byte hok
                      clear hT2 hev hok HBAD HGOOD hp hul
                      rcases hw2 with hw2 | hw2
                      · have hw3 : decide (55296 ≤ q) = false := decide_eq_false (by omega)
                        go_wp2_with fail
                        refine (refUtf8_any q W HOK.out).mono ?_
                        rintro e W2 ⟨Au, L, capu, rfl, hLu, _, _, _, hru, hb2⟩
                        obtain ⟨A3, cap3, W3, hrun3, g1, g2, _, g4, g5⟩ := rd_more w W2 A' cap p out (own_below HOWN.out hb2) (below_step HB.out hb2) Au L capu (utfF q) hLu hru (by omega)
                        have HRUN := Lib.hid hrun3
                        have HG := Lib.hid (And.intro g4 g5)
                        have HLL := Lib.hid hLu
                        have hL4 : L ≤ 4 := by omega
                        clear hrun3 g4 g5 hru hb2 hLu
                        go_wp2_with (at_builtin; refine wpList_append_known rfl (.tmp 125) (.tmp 128) 26 rfl (.slice A' p cap) (.slice Au L capu) _ _ rfl rfl HRUN.out ?_; clear HRUN)
                        exact ⟨⟨k + (1 + (1 + 8)), p + L, cap3, A3, by omega, by omega, by omega, rfl, rfl, rfl, rfl, congrArg (Value.int .i64) (by omega), g1, g2, out ++ utfF q, by rw [List.length_append, HOL.out, HLL.out], HOY.out.append HUB.out, HT2.out, HG.out.1, HG.out.2⟩, by simp only [intOf]; omega⟩
                      · have hw3 : decide (q ≤ 57343) = false := decide_eq_false (by omega)
                        have hw4 : 55296 ≤ q := by omega
                        go_wp2_with fail
                        refine (refUtf8_any q W HOK.out).mono ?_
                        rintro e W2 ⟨Au, L, capu, rfl, hLu, _, _, _, hru, hb2⟩
                        obtain ⟨A3, cap3, W3, hrun3, g1, g2, _, g4, g5⟩ := rd_more w W2 A' cap p out (own_below HOWN.out hb2) (below_step HB.out hb2) Au L capu (utfF q) hLu hru (by omega)
                        have HRUN := Lib.hid hrun3
                        have HG := Lib.hid (And.intro g4 g5)
                        have HLL := Lib.hid hLu
                        have hL4 : L ≤ 4 := by omega
                        clear hrun3 g4 g5 hru hb2 hLu
                        go_wp2_with (at_builtin; refine wpList_append_known rfl (.tmp 125) (.tmp 128) 26 rfl (.slice A' p cap) (.slice Au L capu) _ _ rfl rfl HRUN.out ?_; clear HRUN)
                        exact ⟨⟨k + (1 + (1 + 8)), p + L, cap3, A3, by omega, by omega, by omega, rfl, rfl, rfl, rfl, congrArg (Value.int .i64) (by omega), g1, g2, out ++ utfF q, by rw [List.length_append, HOL.out, HLL.out], HOY.out.append HUB.out, HT2.out, HG.out.1, HG.out.2⟩, by simp only [intOf]; omega⟩
              have n3' : (x == 120) = false := beq_eq_false_iff_ne.2 n3
              have n4' : (x == 117) = false := beq_eq_false_iff_ne.2 n4
              have n5' : (x == 85) = false := beq_eq_false_iff_ne.2 n5
              by_cases hneg : esc1 x < 0
              · have hv : o = none := by rw [← HOT.out, dqAt_bad zs out k hkz h92 (by rw [hdr]; exact esc1_none hneg hcb1 n3 n4 n5)]
                subst hv
                clear hrw hc hdr hkz hkz2 h92 n3 n4 n5
                obtain ⟨v, hv⟩ : ∃ v, esc1 x = v := ⟨_, rfl⟩
                have HE := Lib.hid (refEscape_any x W hcb1 hcb2 v hv)
                rw [hv] at hneg
                clear hv
                go_wp2_with fail
                refine HE.out.mono ?_
                rintro e W2 ⟨rfl, hb2⟩
                have HB2 := Lib.hid (below_step HB.out hb2)
                clear hb2 HE
                go_wp2_with fail
                go_ret3
                exact ⟨⟨#[]⟩, rfl, rfl, HB2.out⟩
              · obtain ⟨q, hv⟩ : ∃ q, esc1 x = q := ⟨_, rfl⟩
                have hsome : escF (zs.drop (k + 1)) = some (q, 1) := by rw [hdr, ← hv]; exact esc1_some (by omega) n3 n4 n5
                have hT2 := dqAt_esc zs out k hkz h92 q 1 hsome
                have HT2 : Hid (dqAt zs (out ++ utfF q) (k + (1 + 1)) = o) := by show _ = _; rw [← hT2, HOT.out]
                have hok := (escF_parts hsome).1
                have HOK := Lib.hid hok
                have HE := Lib.hid (refEscape_any x W hcb1 hcb2 q hv)
                rw [hv] at hneg
                have dneg : decide (q < 0) = false := decide_eq_false hneg
                have hul2 := (utfF_len q).2
                have HUB : Hid (Byte (utfF q)) := utfF_byte hok
                clear hv hrw hc hdr hkz hkz2 h92 n3 n4 n5 hsome hT2 hok
                go_wp2_with fail
                refine HE.out.mono ?_
                rintro e W2 ⟨rfl, hb2⟩
                have HB2 := Lib.hid (below_step HB.out hb2)
                have HOWN2 := Lib.hid (own_below HOWN.out hb2)
                clear hb2 HE
                go_wp2_with fail
                refine (refUtf8_any q W2 HOK.out).mono ?_
                rintro e W3 ⟨Au, L, capu, rfl, hLu, _, _, _, hru, hb3⟩
                obtain ⟨A3, cap3, W4, hrun3, g1, g2, _, g4, g5⟩ := rd_more w W3 A' cap p out (own_below HOWN2.out hb3) (below_step HB2.out hb3) Au L capu (utfF q) hLu hru (by omega)
                have HRUN := Lib.hid hrun3
                have HG := Lib.hid (And.intro g4 g5)
                have HLL := Lib.hid hLu
                have hL4 : L ≤ 4 := by omega
                clear hrun3 g4 g5 hru hb3 hLu
                go_wp2_with (at_builtin; refine wpList_append_known rfl _ (.tmp 77) 26 rfl (.slice A' p cap) (.slice Au L capu) _ _ rfl rfl HRUN.out ?_)
                go_roundw
                case rel => exact ⟨k + (1 + 1), p + L, cap3, A3, by omega, by omega, by omega, rfl, rfl, rfl, rfl, by go_num, g1, g2, out ++ utfF q, by rw [List.length_append, HOL.out, HLL.out], HOY.out.append HUB.out, HT2.out, HG.out.1, HG.out.2⟩
                case measure => simp [intOf]; omega
            · have d2 : (n : Int) ≤ (k : Int) + 1 := by omega
              have hv : o = none := by rw [← HOT.out, dqAt_bad zs out k hkz h92 (by rw [List.drop_eq_nil_of_le (by rw [HL.out]; omega)]; rfl)]
              subst hv
              clear hrw hc hkz h92
              go_wp2_with fail
              go_ret3
              exact ⟨⟨#[]⟩, rfl, rfl, HB.out⟩
          · have HT2 : Hid (dqAt zs (out ++ [zs.getD k 0]) (k + 1) = o) := by show _ = _; rw [← HOT.out, dqAt_ne zs out k hkz hq h10 h13 h92]
            have hzb := HY.out.at_ hkz
            have e92 : (zs.getD k 0 != 92) = true := bne_iff_ne.2 h92
            clear hrw hc hbr h10 h13 h92 hq hkz
            generalize zs.getD k 0 = z at *
            obtain ⟨A2, cap2, W2, hrun, g1, g2, _, g4, g5⟩ := one_more w W A' cap p out HOL.out HOWN.out HB.out z (by omega)
            have HRUN := Lib.hid hrun
            have HG := Lib.hid (And.intro g4 g5)
            clear hrun g4 g5
            go_wp2_with (at_builtin; refine wpList_append_known rfl _ (.tmp 45) 26 rfl (.slice A' p cap) (.slice (some ⟨W.heap.size, 0, none⟩) 1 1) _ _ rfl rfl HRUN.out ?_)
            go_roundw
            case rel => exact ⟨k + 1, p + 1, cap2, A2, by omega, by omega, by omega, rfl, rfl, rfl, rfl, by go_num, g1, g2, out ++ [z], by simp [HOL.out], HOY.out.append (by intro y hy; simp at hy; subst hy; exact hzb), HT2.out, HG.out.1, HG.out.2⟩
            case measure => simp [intOf]; omega
        · have hv : o = none := by rw [← HOT.out, dqAt_past zs out k (by rw [HL.out]; omega)]
          subst hv
          have d : decide ((k : Int) < (n : Int)) = false := decide_eq_false (by omega)
          go_wp2_with fail
          go_ret3
          exact ⟨⟨#[]⟩, rfl, rfl, HB.out⟩
    · have hv : o = none := by rw [← ho, takeD, if_neg h0]
      subst hv
      have e34 : (zs.getD 0 0 == 34) = false := beq_eq_false_iff_ne.2 h0
      have B0 : Hid (Below w.heap.size w w) := Below.refl _ _
      clear hl hr hb ho h0 HO hc HL HR HY
      generalize zs.getD 0 0 = z at *
      go_enter Tryd.func16, Tryd.ntmps16
      go_wp2_with fail
      go_ret3
      exact ⟨⟨#[]⟩, rfl, rfl, B0.out⟩
  · obtain rfl : n = 0 := by omega
    have hz : zs = [] := List.eq_nil_of_length_eq_zero hl
    subst hz
    have hv : o = none := by rw [← ho]; rfl
    subst hv
    have B0 : Hid (Below w.heap.size w w) := Below.refl _ _
    clear hl hr hb ho HO HL HR HY
    go_enter Tryd.func16, Tryd.ntmps16
    go_wp2_with fail
    go_ret3
    exact ⟨⟨#[]⟩, rfl, rfl, B0.out⟩
end Go.Proofs.YtgiloooandiokaaDoor
