/- double.Take. -/
import Derived.Test.YtdjpdcjljpmfnaaDoorDbEsc
import Derived.Test.YtdjpdcjljpmfnaaDoorDbApp
namespace Go.Proofs.YtdjpdcjljpmfnaaDoor
open Go.RowKit
set_option linter.unusedVariables false
set_option maxRecDepth 100000

def TakeP (o : Option (List Int × Nat)) (w : World) (e : Ending) (w' : World) : Prop :=
  ∃ v : ByteArray, byt v = tkV o ∧ e = .returned (.tuple #[.string v, .int .i64 (tkN o : Int), .bool o.isSome]) ∧ Below w.heap.size w w'

set_option maxHeartbeats 4000000 in
theorem take_any (A : Option Addr) (n c : Nat) (zs : List Int) (w : World) (hl : zs.length = n) (hnc : n ≤ c) (hm : c ≤ 9223372036854775807) (hn : n ≤ 1000000) (hb : Byte zs) (hr : RdB w A zs) (hS : Shorts w) (o : Option (List Int × Nat)) (ho : takeD zs = o) :
    Calls Tryd.prog 18 #[.slice A n c] w (TakeP o w) := by
  have HL := Lib.hid hl
  have HR := Lib.hid hr
  have HY := Lib.hid hb
  have HO := Lib.hid ho
  have HS := Lib.hid hS
  by_cases hn0 : 0 < n
  · obtain ⟨b, off, rfl, hc⟩ := hr.addr (by omega)
    have c0 := hc 0 (by omega)
    rw [Nat.add_zero] at c0
    have d0 : ((n : Int) == 0) = false := beq_eq_false_iff_ne.2 (by omega)
    have d0' : (0 : Int) < (n : Int) := by omega
    by_cases h0 : zs.getD 0 0 = 34
    · have HT : Hid (dqAt zs [] 1 = o) := by show _ = _; rw [← ho, takeD, if_pos h0]
      rw [h0] at c0
      have B0 : Hid (Below w.heap.size w w) := Below.refl _ _
      clear hl hr hb ho h0 HO hc hS
      go_enter Tryd.func18, Tryd.ntmps18
      go_wp2_with fail
      clear c0
      go_loopw [2, 3, 4, 5, 6] (fun r1 r2 r3 v i W => ∃ (k p cap : Nat) (A' : Option Addr), 1 ≤ k ∧ k ≤ n ∧ p ≤ 4 * k ∧ r1 = .string ⟨#[]⟩ ∧ r2 = .int .i64 0 ∧ r3 = .bool false ∧ v = .slice A' p cap ∧ i = .int .i64 (k : Int) ∧ p ≤ cap ∧ cap ≤ 9223372036854775807 ∧
        Hid (∃ out : List Int, out.length = p ∧ Byte out ∧ dqAt zs out k = o ∧ W.ownsRow w.heap.size 5 1 (.slice A' p cap) p (out.map (Value.int .u8)) ∧ Below w.heap.size w W)) (fun _ _ _ _ i _ => n - (intOf i).toNat)
      case atStart => exact ⟨1, 0, 0, none, by omega, by omega, by omega, rfl, rfl, rfl, rfl, rfl, by omega, by omega, [], rfl, (fun z hz => by cases hz), HT.out, own_nil _ _ _ _, B0.out⟩
      case round =>
        obtain ⟨k, p, cap, A', hk1, hk, hpk, rfl, rfl, rfl, rfl, rfl, hpc, hcap, HK⟩ := hrel
        obtain ⟨W, hW⟩ : ∃ x, x = wr := ⟨_, rfl⟩
        subst hW
        obtain ⟨out, hol, hoy, hot, hown, hbel⟩ := HK.out
        have HB := Lib.hid hbel
        have HOL := Lib.hid hol
        have HOY := Lib.hid hoy
        have HOT := Lib.hid hot
        have HOWN := Lib.hid hown
        clear hol hoy hot hown hbel HK
        by_cases hlt : k < n
        · have hkz : k < zs.length := by rw [HL.out]; exact hlt
          have hrw := HR.out.below HB.out
          obtain ⟨b', off', e', hc⟩ := hrw.addr (by rw [HL.out]; omega)
          injection e' with e'
          injection e' with e1 e2
          subst e1 e2
          have ck := hc k hkz
          have d : (k : Int) < (n : Int) := by omega
          by_cases hq : zs.getD k 0 = 34
          · have hv : o = some (out, k + 1) := by rw [← HOT.out, dqAt_end zs out k hkz hq]
            have HVV := Lib.hid hv
            have hcv := run_string_rd W A' p cap out HOL.out (RdC.own HOWN.out).toB
            have HX : Hid (byt (strOfNums out) = out) := byt_strOfNums out HOY.out
            generalize strOfNums out = ys at *
            rw [hq] at ck
            clear hrw hc hq hkz hv
            go_wp2_with fail
            go_ret3
            exact ⟨ys, by rw [HVV.out]; exact HX.out, by rw [HVV.out]; simp [tkN], HB.out⟩
          have e34 : (zs.getD k 0 == 34) = false := beq_eq_false_iff_ne.2 hq
          by_cases hbr : zs.getD k 0 = 10 ∨ zs.getD k 0 = 13
          · have hv : o = none := by rw [← HOT.out, dqAt_brk zs out k hkz hbr]
            subst hv
            clear hrw hc e34 hq
            rcases hbr with hz | hz
            · rw [hz] at ck
              clear hz hkz
              go_wp2_with fail
              go_ret3
              exact ⟨⟨#[]⟩, rfl, rfl, HB.out⟩
            · rw [hz] at ck
              clear hz hkz
              go_wp2_with fail
              go_ret3
              exact ⟨⟨#[]⟩, rfl, rfl, HB.out⟩
          have h10 : zs.getD k 0 ≠ 10 := fun h => hbr (.inl h)
          have h13 : zs.getD k 0 ≠ 13 := fun h => hbr (.inr h)
          have e10 : (zs.getD k 0 == 10) = false := beq_eq_false_iff_ne.2 h10
          have e13 : (zs.getD k 0 == 13) = false := beq_eq_false_iff_ne.2 h13
          by_cases h92 : zs.getD k 0 = 92
          · rw [h92] at ck
            obtain ⟨A2, hsl, hA2, hrd⟩ := slice_lI (some ⟨b, off, none⟩) n c (k + 1) ((k : Int) + 1) (by omega) zs HL.out hnc (fun h => by cases h) (by omega)
            have hld : (zs.drop (k + 1)).length = n - (k + 1) := by rw [List.length_drop, HL.out]
            cases he : escF (zs.drop (k + 1)) with
            | none =>
              have hv : o = none := by rw [← HOT.out, dqAt_bad zs out k hkz h92 he]
              subst hv
              have HE : Hid (Calls Tryd.prog 31 #[.slice A2 (n - (k + 1)) (c - (k + 1))] W fun e w' => e = .returned (.tuple #[.int .i32 0, .int .i64 0, .bool false]) ∧ Below W.heap.size W w') :=
                escaped_any A2 (n - (k + 1)) (c - (k + 1)) (zs.drop (k + 1)) W hld (by omega) (by omega) (HY.out.drop _) (hrd W hrw) (HS.out.below HB.out) none he
              clear hrw hc e34 hq hbr h10 h13 e10 e13 h92 hrd hld he hkz
              go_wp2_with fail
              refine HE.out.mono ?_
              rintro e W2 ⟨rfl, hb2⟩
              have HB2 := Lib.hid (below_step HB.out hb2)
              clear hb2 HE
              go_wp2_with fail
              go_ret3
              exact ⟨⟨#[]⟩, rfl, rfl, HB2.out⟩
            | some x =>
              obtain ⟨r, m⟩ := x
              have hp := escF_parts he
              have hT2 := dqAt_esc zs out k hkz h92 r m he
              have HT2 : Hid (dqAt zs (out ++ utfF r) (k + (1 + m)) = o) := by show _ = _; rw [← hT2, HOT.out]
              have HE : Hid (Calls Tryd.prog 31 #[.slice A2 (n - (k + 1)) (c - (k + 1))] W fun e w' => e = .returned (.tuple #[.int .i32 r, .int .i64 (m : Int), .bool true]) ∧ Below W.heap.size W w') :=
                escaped_any A2 (n - (k + 1)) (c - (k + 1)) (zs.drop (k + 1)) W hld (by omega) (by omega) (HY.out.drop _) (hrd W hrw) (HS.out.below HB.out) (some (r, m)) he
              have HR2 := Lib.hid hp.1
              have hm1 := hp.2.1
              have hm2 : m ≤ n - (k + 1) := by rw [← hld]; exact hp.2.2
              have hul := utfF_len r
              have hul1 := hul.1
              have hul2 := hul.2
              have HUB : Hid (Byte (utfF r)) := utfF_byte hp.1
              clear hrw hc e34 hq hbr h10 h13 e10 e13 h92 hrd hld he hkz hT2 hp hul
              go_wp2_with fail
              refine HE.out.mono ?_
              rintro e W2 ⟨rfl, hb2⟩
              have HOWN2 := Lib.hid (own_below HOWN.out hb2)
              have HB2 := Lib.hid (below_step HB.out hb2)
              clear hb2 HE
              go_wp2_with fail
              refine (appendRune_any w W2 A' cap p out HOL.out HOWN2.out HB2.out r HR2.out (by omega)).mono ?_
              rintro e W3 ⟨A3, cap3, rfl, g1, g2, g3, g4, g5⟩
              have HG := Lib.hid (And.intro g4 g5)
              clear g3 g4 g5
              generalize hL : (utfF r).length = L at *
              have HLL := Lib.hid hL
              clear hL
              go_wp2_with fail
              go_roundw
              case rel => exact ⟨k + (1 + m), p + L, cap3, A3, by omega, by omega, by omega, rfl, rfl, rfl, rfl, by go_num, g1, g2, out ++ utfF r, by rw [List.length_append, HOL.out, HLL.out], HOY.out.append HUB.out, HT2.out, HG.out.1, HG.out.2⟩
              case measure => simp [intOf]; omega
          · have HT2 : Hid (dqAt zs (out ++ [zs.getD k 0]) (k + 1) = o) := by show _ = _; rw [← HOT.out, dqAt_ne zs out k hkz hq h10 h13 h92]
            have hzb := HY.out.at_ hkz
            have e92 : (zs.getD k 0 == 92) = false := beq_eq_false_iff_ne.2 h92
            clear hrw hc hbr h10 h13 h92 hq hkz
            generalize zs.getD k 0 = z at *
            obtain ⟨A2, cap2, W2, hrun, g1, g2, _, g4, g5⟩ := one_more w W A' cap p out HOL.out HOWN.out HB.out z (by omega)
            have HRUN := Lib.hid hrun
            have HG := Lib.hid (And.intro g4 g5)
            clear hrun g4 g5
            go_wp2_with (at_builtin; refine wpList_append_known rfl _ (.tmp 31) 37 rfl (.slice A' p cap) (.slice (some ⟨W.heap.size, 0, none⟩) 1 1) _ _ rfl rfl HRUN.out ?_)
            go_roundw
            case rel => exact ⟨k + 1, p + 1, cap2, A2, by omega, by omega, by omega, rfl, rfl, rfl, rfl, by go_num, g1, g2, out ++ [z], by simp [HOL.out], HOY.out.append (by intro y hy; simp at hy; subst hy; exact hzb), HT2.out, HG.out.1, HG.out.2⟩
            case measure => simp [intOf]; omega
        · have hv : o = none := by rw [← HOT.out, dqAt_past zs out k (by rw [HL.out]; omega)]
          subst hv
          have d : decide ((k : Int) < (n : Int)) = false := decide_eq_false (by omega)
          go_wp2_with fail
          go_ret3
          exact ⟨⟨#[]⟩, rfl, rfl, HB.out⟩
    · have hv : o = none := by rw [← ho, takeD, if_neg h0]
      subst hv
      have e34 : (zs.getD 0 0 == 34) = false := beq_eq_false_iff_ne.2 h0
      have B0 : Hid (Below w.heap.size w w) := Below.refl _ _
      clear hl hr hb ho h0 HO hc HL HR HY hS HS
      generalize zs.getD 0 0 = z at *
      go_enter Tryd.func18, Tryd.ntmps18
      go_wp2_with fail
      go_ret3
      exact ⟨⟨#[]⟩, rfl, rfl, B0.out⟩
  · obtain rfl : n = 0 := by omega
    have hz : zs = [] := List.eq_nil_of_length_eq_zero hl
    subst hz
    have hv : o = none := by rw [← ho]; rfl
    subst hv
    have B0 : Hid (Below w.heap.size w w) := Below.refl _ _
    clear hl hr hb ho HO HL HR HY hS HS
    go_enter Tryd.func18, Tryd.ntmps18
    go_wp2_with fail
    go_ret3
    exact ⟨⟨#[]⟩, rfl, rfl, B0.out⟩
end Go.Proofs.YtdjpdcjljpmfnaaDoor
