/-
  Proved: the card of the law 'scholium/scholiumlaw06.DoubleRunes' (for every input it returns true, and every argument reads as it did before; the package variables that the row lists are tied to the program's text). No conditions.
-/
import Derived.Test.YtgiloooandiokaaDoorRows
import Derived.Test.YtgiloooandiokaaDoorCards
import Derived.Test.YtgiloooandiokaaDoorTie
import Derived.Test.YtgiloooandiokaaDoorDoor
import Derived.Test.YtgiloooandiokaaDoorDbDoor
import Derived.Test.YtgiloooandiokaaDoorDbRunes
import Derived.Test.YtgiloooandiokaaDoorKeep
import Derived.WalkKit
import Derived.ProofKit
import Derived.OpenShut
import Derived.ShutString
import Derived.ChangeOld
import Derived.Below
import Derived.LaidMore
import Derived.Lay
import Derived.SevenTiedAt
namespace Go.Proofs.YtgiloooandiokaaDoor.doubleRunes
open Go.ChangeShapes Go.WideShapes Go.ChangeAt Go.RowKit
open Go.ChangeMaps (open_string shut_string)
set_option linter.unusedVariables false

theorem own : ownKnob Tryd.prog.godebug = none := by kernel_rfl
theorem laidOut : laidOutB Tryd.prog = true := by kernel_rfl

/-- A slice of integers that came in. -/
def IsRow (k : IntKind) (w : World) (a : Option Addr) (len cap : Nat) (zs : List Int) : Prop :=
  (a = none ∧ len = 0 ∧ cap = 0 ∧ zs = []) ∨
  ∃ x, a = some x ∧ len ≤ cap ∧ cap ≤ maxLen ∧ zs.length = cap ∧ (∀ i, i < zs.length → w.cell? (x.add i) = some (.int k (zs.getD i 0))) ∧ ∀ n ∈ zs, (Lit.int k n).wf = true

theorem set_same (l : List Int) (k : Nat) (z : Int) (h : l[k]? = some z) : l.set k z = l := by
  apply List.ext_getElem?
  intro i
  by_cases hi : k = i
  · subst hi
    rw [List.getElem?_set_self (List.getElem?_eq_some_iff.1 h).1, h]
  · rw [List.getElem?_set_ne hi]
set_option maxHeartbeats 8000000 in
set_option maxRecDepth 100000 in
theorem walk (a0 : Int) (a1 : Bool) (w : World) (w0 : (Lit.int .u32 a0).wf = true) (hS : Shorts w) :
    Calls Tryd.prog 8 #[.int .u32 a0, .bool a1] w fun e w' => e = .returned (.bool true) ∧ Below w.heap.size w w' := by
  have hn := bounds_u32 w0
  have hn0 := hn.1
  have hn1 : a0 < 4294967296 := by omega
  have HS := Lib.hid hS
  have HB0 : Hid (Below w.heap.size w w) := Below.refl _ _
  clear hS w0 hn
  go_enter Tryd.func8, Tryd.ntmps8
  go_upto_if 19 with fail
  go_cut [0] (fun s W => ∃ n : Int, s = .int .u32 n ∧ W = w ∧ 0 ≤ n ∧ n < 4294967296)
  case first =>
    cases h4 : (a0 % 4 != 3)
    · go_wp2_with fail
      go_meet
      exact ⟨_, rfl, rfl, by omega, by omega⟩
    · go_wp2_with fail
      go_meet
      exact ⟨_, rfl, rfl, by omega, by omega⟩
  case rest =>
    obtain ⟨n, rfl, rfl, h0, h1⟩ := hcut
    obtain ⟨w, hw⟩ : ∃ x, x = wc := ⟨_, rfl⟩
    subst hw
    clear hn0 hn1
    go_wp2_with fail
    refine (hex_at HB0.out n 8 h0 h1 (by omega)).mono ?_
    rintro e W1 ⟨h, hh, rfl, hb1⟩
    have HB1 := Lib.hid hb1
    have hh : byt h = hexF n 8 := hh
    have HH := Lib.hid hh
    have hsz : h.size = 8 := by rw [← byt_len, hh, hexF_len]
    have e8 : ((h.size : Int) != 8) = false := by rw [hsz]; rfl
    obtain ⟨cap, V, B⟩ := bytes_of h (by omega) W1
    have r1 := B.run
    rw [hsz] at r1
    have hcap := B.le
    have hcmax := B.max
    have HBV := Lib.hid (below_step hb1 B.below)
    have HRV := Lib.hid B.rd
    have HFR : Hid (∀ k, k < 8 → V.frozen? ⟨W1.heap.size, k, none⟩ = false) := fun k hk => bytes_free B k (by omega)
    have hg : Hid (w.heap.size ≤ W1.heap.size) := hb1.size
    have HZ := Lib.hid hsz
    rw [hsz] at hcap
    clear hh hb1 B hsz
    go_upto_if 27 with fail
    go_cut [5] (fun s W => ∃ h2 : ByteArray, s = .string h2 ∧ Hid (Digits n (byt h2) ∧ Below w.heap.size w W))
    case first =>
      cases a1
      · go_wp2_with fail
        go_meet
        exact ⟨_, rfl, .inl HH.out, HB1.out⟩
      · go_wp2_with fail
        clear r1
        go_loopw [32] (fun iv W => ∃ k : Nat, k ≤ 8 ∧ iv = .int .i64 (k : Int) ∧ Hid (RdB W (some ⟨W1.heap.size, 0, none⟩) (loK (hexF n 8) k) ∧ (∀ k, k < 8 → W.frozen? ⟨W1.heap.size, k, none⟩ = false) ∧ Below w.heap.size w W)) (fun iv _ => 8 - (intOf iv).toNat)
        case atStart => exact ⟨0, by omega, rfl, (by rw [show loK (hexF n 8) 0 = byt h by rw [HH.out]; simp [loK]]; exact HRV.out), HFR.out, HBV.out⟩
        case round =>
          obtain ⟨k, hk, rfl, HK⟩ := hrel
          obtain ⟨W, hW⟩ : ∃ x, x = wr := ⟨_, rfl⟩
          subst hW
          by_cases hlt : k < 8
          · have dk : (k : Int) < 8 := by omega
            have hkl : k < (hexF n 8).length := by rw [hexF_len]; exact hlt
            have hat := loK_at (hexF n 8) k hkl
            have hcl := hexF_byte 8 n _ (List.mem_of_getElem? (getD_at hkl))
            have hst := loK_step (hexF n 8) k hkl
            obtain ⟨z, hz⟩ : ∃ z, (hexF n 8).getD k 0 = z := ⟨_, rfl⟩
            rw [hz] at hat hcl hst
            have hcell : W.cell? ⟨W1.heap.size, k, none⟩ = some (.int .u8 z) := by
              obtain ⟨b, off, e, hc⟩ := HK.out.1 k z hat
              injection e with e
              injection e with e1 e2
              subst e1 e2
              rwa [Nat.zero_add] at hc
            have hfz := HK.out.2.1 k hlt
            rcases hcl with ⟨k1, k2⟩ | ⟨k1, k2⟩
            · have k3 : decide (65 ≤ z) = false := decide_eq_false (by omega)
              have HN : Hid (RdB W (some ⟨W1.heap.size, 0, none⟩) (loK (hexF n 8) (k + 1))) := by
                show RdB _ _ _
                rw [hst, show lo z = z by unfold lo; rw [if_neg (by omega)], set_same _ _ _ hat]
                exact HK.out.1
              have HN2 := Lib.hid HK.out.2
              clear hkl hat hst hz HK
              go_wp2_with fail
              go_roundw
              case rel => exact ⟨k + 1, by omega, by go_num, HN.out, HN2.out.1, HN2.out.2⟩
              case measure => simp [intOf]; omega
            · have HN : Hid (RdB (W.setCell ⟨W1.heap.size, k, none⟩ (.int .u8 (z + 32))) (some ⟨W1.heap.size, 0, none⟩) (loK (hexF n 8) (k + 1)) ∧ (∀ j, j < 8 → (W.setCell ⟨W1.heap.size, k, none⟩ (.int .u8 (z + 32))).frozen? ⟨W1.heap.size, j, none⟩ = false) ∧ Below w.heap.size w (W.setCell ⟨W1.heap.size, k, none⟩ (.int .u8 (z + 32)))) := by
                refine ⟨?_, fun j hj => ?_, HK.out.2.2.setCell hg.out _⟩
                · rw [hst, show lo z = z + 32 by unfold lo; rw [if_pos k1]]
                  exact HK.out.1.set k (by rw [loK_len]; exact hkl) _
                · rw [World.frozen?_setCell]; exact HK.out.2.1 j hj
              clear hkl hat hst hz HK
              go_wp2_with fail
              go_roundw
              case rel => exact ⟨k + 1, by omega, by go_num, HN.out.1, HN.out.2.1, HN.out.2.2⟩
              case measure => simp [intOf]; omega
          · obtain rfl : k = 8 := by omega
            have hrd := HK.out.1
            have he := loK_end (hexF n 8)
            rw [hexF_len] at he
            rw [he] at hrd
            have hdig : Digits n ((hexF n 8).map lo) := .inr rfl
            have hcv := run_string_rd W (some ⟨W1.heap.size, 0, none⟩) 8 cap _ hdig.len hrd
            have HX : Hid (byt (strOfNums ((hexF n 8).map lo)) = (hexF n 8).map lo) := byt_strOfNums _ hdig.byte
            generalize strOfNums ((hexF n 8).map lo) = y at *
            have HBW := Lib.hid HK.out.2.2
            clear hrd he hdig HK
            go_wp2_with fail
            go_meet
            exact ⟨y, rfl, .inr HX.out, HBW.out⟩
    case rest =>
      obtain ⟨h2, rfl, HD⟩ := hcut
      obtain ⟨W2, hW2⟩ : ∃ x, x = wc := ⟨_, rfl⟩
      subst hW2
      have HB2 := Lib.hid HD.out.2
      have HDG := Lib.hid HD.out.1
      have hs2 : h2.size ≤ 8 := by rw [← byt_len, HD.out.1.len]; omega
      have hs2' : 8 ≤ h2.size := by rw [← byt_len, HD.out.1.len]; omega
      clear HD r1 HBV HRV HFR HH HZ e8
      have hsl : ∀ a : Nat, a ≤ 8 → byt (h2.extract a h2.size) = (byt h2).drop a ∧ (h2.extract a h2.size).size ≤ 8 := by
        intro a ha
        refine ⟨?_, by rw [ByteArray.size_extract]; omega⟩
        rw [byt_extract, List.take_of_length_le (by rw [List.length_drop, byt_len]; omega)]
      obtain ⟨hb4, hz4⟩ := hsl 4 (by omega)
      obtain ⟨hb6, hz6⟩ := hsl 6 (by omega)
      obtain ⟨hb7, hz7⟩ := hsl 7 (by omega)
      obtain ⟨h4, hr4⟩ : ∃ x, h2.extract 4 h2.size = x := ⟨_, rfl⟩
      obtain ⟨h6, hr6⟩ : ∃ x, h2.extract 6 h2.size = x := ⟨_, rfl⟩
      obtain ⟨h7, hr7⟩ : ∃ x, h2.extract 7 h2.size = x := ⟨_, rfl⟩
      rw [hr4] at hb4 hz4
      rw [hr6] at hb6 hz6
      rw [hr7] at hb7 hz7
      clear hsl
      have t8 := HDG.out.val h0 0 8 rfl
      have t4 := HDG.out.val h0 4 4 rfl
      have t6 := HDG.out.val h0 6 2 rfl
      rw [← hb4] at t4
      rw [← hb6] at t6
      have hl8 := HDG.out.len
      have l4 : (byt h4).length = 4 := by rw [hb4, List.length_drop, hl8]
      have l6 : (byt h6).length = 2 := by rw [hb6, List.length_drop, hl8]
      have l7 : (byt h7).length = 1 := by rw [hb7, List.length_drop, hl8]
      rw [List.drop_zero, Int.emod_eq_of_lt h0 (by omega)] at t8
      obtain ⟨xa, hxa⟩ : ∃ x, (⟨#[34, 92, 85]⟩ : ByteArray) ++ h2 = x := ⟨_, rfl⟩
      obtain ⟨xA, hxA⟩ : ∃ x, xa ++ (⟨#[34]⟩ : ByteArray) = x := ⟨_, rfl⟩
      obtain ⟨xb, hxb⟩ : ∃ x, (⟨#[34, 92, 117]⟩ : ByteArray) ++ h4 = x := ⟨_, rfl⟩
      obtain ⟨xB, hxB⟩ : ∃ x, xb ++ (⟨#[34]⟩ : ByteArray) = x := ⟨_, rfl⟩
      obtain ⟨xc, hxc⟩ : ∃ x, (⟨#[34, 92, 120]⟩ : ByteArray) ++ h6 = x := ⟨_, rfl⟩
      obtain ⟨xC, hxC⟩ : ∃ x, xc ++ (⟨#[34]⟩ : ByteArray) = x := ⟨_, rfl⟩
      obtain ⟨xd, hxd⟩ : ∃ x, (⟨#[34, 92, 120]⟩ : ByteArray) ++ h7 = x := ⟨_, rfl⟩
      obtain ⟨xD, hxD⟩ : ∃ x, xd ++ (⟨#[34]⟩ : ByteArray) = x := ⟨_, rfl⟩
      have z3 : (⟨#[34, 92, 85]⟩ : ByteArray).size = 3 := rfl
      have z3' : (⟨#[34, 92, 117]⟩ : ByteArray).size = 3 := rfl
      have z3'' : (⟨#[34, 92, 120]⟩ : ByteArray).size = 3 := rfl
      have z1 : (⟨#[34]⟩ : ByteArray).size = 1 := rfl
      have sa : xa.size ≤ 20 := by rw [← hxa, ByteArray.size_append]; omega
      have sA : xA.size ≤ 30 := by rw [← hxA, ByteArray.size_append]; omega
      have sb : xb.size ≤ 20 := by rw [← hxb, ByteArray.size_append]; omega
      have sB : xB.size ≤ 30 := by rw [← hxB, ByteArray.size_append]; omega
      have sc : xc.size ≤ 20 := by rw [← hxc, ByteArray.size_append]; omega
      have sC : xC.size ≤ 30 := by rw [← hxC, ByteArray.size_append]; omega
      have sd : xd.size ≤ 20 := by rw [← hxd, ByteArray.size_append]; omega
      have sD : xD.size ≤ 30 := by rw [← hxD, ByteArray.size_append]; omega
      clear z3 z3' z3'' z1
      have TA : Hid (takeD (byt xA) = if okR n = true then some (utfF n, 4 + 8) else none) := by
        show _ = _
        rw [← hxA, byt_append, ← hxa, byt_append]
        exact take_num n 8 85 (byt h2) hl8 t8 escF_U
      have TB : Hid (n ≤ 65535 → takeD (byt xB) = if okR n = true then some (utfF n, 4 + 4) else none) := by
        intro hle
        rw [Int.emod_eq_of_lt h0 (by omega)] at t4
        rw [← hxB, byt_append, ← hxb, byt_append]
        exact take_num n 4 117 (byt h4) l4 t4 escF_u
      have TC : Hid (n ≤ 255 → takeD (byt xC) = if okR n = true then some (utfF n, 4 + 2) else none) := by
        intro hle
        rw [Int.emod_eq_of_lt h0 (by omega)] at t6
        rw [← hxC, byt_append, ← hxc, byt_append]
        exact take_num n 2 120 (byt h6) l6 t6 escF_x
      have TD : Hid (takeD (byt xD) = none) := by
        show _ = _
        rw [← hxD, byt_append, ← hxd, byt_append]
        match byt h7, l7 with
        | [z], _ => exact take_x1 z
      clear t8 t4 t6 hl8 l4 l6 l7 hb4 hb6 hb7 HDG
      have HE : Hid (okR n = true → byt (Utf8.encode n) = utfF n) := fun hok => enc_byt n hok
      by_cases hbig : 1114111 < n
      · have hok : okR n = false := by unfold okR; simp; omega
        have g1 : decide (n ≤ 1114111) = false := decide_eq_false (by omega)
        have g2 : 65535 < n := by omega
        have TAN : Hid (takeD (byt xA) = none) := by show _ = _; rw [TA.out, hok]; rfl
        clear hok
        obtain ⟨capA, VA, BA⟩ := bytes_of xA (by omega) W2
        have rA := BA.run
        have HBYA := Lib.hid BA
        clear BA
        go_wp2_with fail
        refine (take_txt HBYA.out HB2.out HS.out (by omega) _ rfl _ TAN.out).mono ?_
        rintro e XA ⟨vA, hvA, rfl, hbA⟩
        have HBXA := Lib.hid hbA
        clear hvA
        clear hbA rA HBYA
        simp only [tkN, Option.isSome]
        go_wp2_with fail
        refine (wakes_at HBXA.out HS.out).mono ?_
        rintro e WZ ⟨rfl, hbz⟩
        have HBZ := Lib.hid hbz
        clear hbz
        go_wp2_with fail
        go_ret
        exact ⟨rfl, HBZ.out⟩
      by_cases hsur : 55296 ≤ n ∧ n ≤ 57343
      · have hok : okR n = false := by unfold okR surr; simp; omega
        have g1 : n ≤ 1114111 := by omega
        have g2 : decide (65535 < n) = false := decide_eq_false (by omega)
        have g3 : decide (n < 55296) = false := decide_eq_false (by omega)
        have g4 : decide (57343 < n) = false := decide_eq_false (by omega)
        have g5 : 255 < n := by omega
        have TAN : Hid (takeD (byt xA) = none) := by show _ = _; rw [TA.out, hok]; rfl
        have TBN : Hid (takeD (byt xB) = none) := by show _ = _; rw [TB.out (by omega), hok]; rfl
        clear hok hsur hbig
        obtain ⟨capA, VA, BA⟩ := bytes_of xA (by omega) W2
        have rA := BA.run
        have HBYA := Lib.hid BA
        clear BA
        go_wp2_with fail
        refine (take_txt HBYA.out HB2.out HS.out (by omega) _ rfl _ TAN.out).mono ?_
        rintro e XA ⟨vA, hvA, rfl, hbA⟩
        have HBXA := Lib.hid hbA
        clear hvA
        clear hbA rA HBYA
        simp only [tkN, Option.isSome]
        obtain ⟨capB, VB, BB⟩ := bytes_of xB (by omega) XA
        have rB := BB.run
        have HBYB := Lib.hid BB
        clear BB
        go_wp2_with fail
        refine (take_txt HBYB.out HBXA.out HS.out (by omega) _ rfl _ TBN.out).mono ?_
        rintro e XB ⟨vB, hvB, rfl, hbB⟩
        have HBXB := Lib.hid hbB
        clear hvB
        clear hbB rB HBYB
        simp only [tkN, Option.isSome]
        go_wp2_with fail
        refine (wakes_at HBXB.out HS.out).mono ?_
        rintro e WZ ⟨rfl, hbz⟩
        have HBZ := Lib.hid hbz
        clear hbz
        go_wp2_with fail
        go_ret
        exact ⟨rfl, HBZ.out⟩
      have hok : okR n = true := okR_mk h0 (by omega) (by unfold surr; simp; omega)
      have hve := HE.out hok
      have TAS : Hid (takeD (byt xA) = some (utfF n, 12)) := by show _ = _; rw [TA.out, hok]; rfl
      have TBS : Hid (n ≤ 65535 → takeD (byt xB) = some (utfF n, 8)) := fun hle => by rw [TB.out hle, hok]; rfl
      have TCS : Hid (n ≤ 255 → takeD (byt xC) = some (utfF n, 6)) := fun hle => by rw [TC.out hle, hok]; rfl
      have HVE := Lib.hid hve
      have hmax : n ≤ 1114111 := by omega
      clear hok hve TA TB TC HE hbig
      by_cases hlow : n < 55296
      · by_cases hff : n ≤ 255
        · have g2 : decide (65535 < n) = false := decide_eq_false (by omega)
          have g5 : decide (255 < n) = false := decide_eq_false (by omega)
          clear hsur
          obtain ⟨capA, VA, BA⟩ := bytes_of xA (by omega) W2
          have rA := BA.run
          have HBYA := Lib.hid BA
          clear BA
          go_wp2_with fail
          refine (take_txt HBYA.out HB2.out HS.out (by omega) _ rfl _ TAS.out).mono ?_
          rintro e XA ⟨vA, hvA, rfl, hbA⟩
          have HBXA := Lib.hid hbA
          obtain rfl : vA = Utf8.encode n := byt_inj (by rw [hvA, HVE.out]; rfl)
          try clear hvA
          clear hbA rA HBYA
          simp only [tkN, Option.isSome]
          obtain ⟨capB, VB, BB⟩ := bytes_of xB (by omega) XA
          have rB := BB.run
          have HBYB := Lib.hid BB
          clear BB
          go_wp2_with fail
          refine (take_txt HBYB.out HBXA.out HS.out (by omega) _ rfl _ (TBS.out (by omega))).mono ?_
          rintro e XB ⟨vB, hvB, rfl, hbB⟩
          have HBXB := Lib.hid hbB
          obtain rfl : vB = Utf8.encode n := byt_inj (by rw [hvB, HVE.out]; rfl)
          try clear hvB
          clear hbB rB HBYB
          simp only [tkN, Option.isSome]
          obtain ⟨capC, VC, BC⟩ := bytes_of xC (by omega) XB
          have rC := BC.run
          have HBYC := Lib.hid BC
          clear BC
          go_wp2_with fail
          refine (take_txt HBYC.out HBXB.out HS.out (by omega) _ rfl _ (TCS.out (by omega))).mono ?_
          rintro e XC ⟨vC, hvC, rfl, hbC⟩
          have HBXC := Lib.hid hbC
          obtain rfl : vC = Utf8.encode n := byt_inj (by rw [hvC, HVE.out]; rfl)
          try clear hvC
          clear hbC rC HBYC
          simp only [tkN, Option.isSome]
          obtain ⟨capD, VD, BD⟩ := bytes_of xD (by omega) XC
          have rD := BD.run
          have HBYD := Lib.hid BD
          clear BD
          go_wp2_with fail
          refine (take_txt HBYD.out HBXC.out HS.out (by omega) _ rfl _ TD.out).mono ?_
          rintro e XD ⟨vD, hvD, rfl, hbD⟩
          have HBXD := Lib.hid hbD
          clear hvD
          clear hbD rD HBYD
          simp only [tkN, Option.isSome]
          go_wp2_with fail
          refine (wakes_at HBXD.out HS.out).mono ?_
          rintro e WZ ⟨rfl, hbz⟩
          have HBZ := Lib.hid hbz
          clear hbz
          go_wp2_with fail
          go_ret
          exact ⟨rfl, HBZ.out⟩
        · by_cases hffff : n ≤ 65535
          · have g2 : decide (65535 < n) = false := decide_eq_false (by omega)
            have g5 : 255 < n := by omega
            clear hsur hff
            obtain ⟨capA, VA, BA⟩ := bytes_of xA (by omega) W2
            have rA := BA.run
            have HBYA := Lib.hid BA
            clear BA
            go_wp2_with fail
            refine (take_txt HBYA.out HB2.out HS.out (by omega) _ rfl _ TAS.out).mono ?_
            rintro e XA ⟨vA, hvA, rfl, hbA⟩
            have HBXA := Lib.hid hbA
            obtain rfl : vA = Utf8.encode n := byt_inj (by rw [hvA, HVE.out]; rfl)
            try clear hvA
            clear hbA rA HBYA
            simp only [tkN, Option.isSome]
            obtain ⟨capB, VB, BB⟩ := bytes_of xB (by omega) XA
            have rB := BB.run
            have HBYB := Lib.hid BB
            clear BB
            go_wp2_with fail
            refine (take_txt HBYB.out HBXA.out HS.out (by omega) _ rfl _ (TBS.out (by omega))).mono ?_
            rintro e XB ⟨vB, hvB, rfl, hbB⟩
            have HBXB := Lib.hid hbB
            obtain rfl : vB = Utf8.encode n := byt_inj (by rw [hvB, HVE.out]; rfl)
            try clear hvB
            clear hbB rB HBYB
            simp only [tkN, Option.isSome]
            go_wp2_with fail
            refine (wakes_at HBXB.out HS.out).mono ?_
            rintro e WZ ⟨rfl, hbz⟩
            have HBZ := Lib.hid hbz
            clear hbz
            go_wp2_with fail
            go_ret
            exact ⟨rfl, HBZ.out⟩
          · exfalso; omega
      · have hhi : 57343 < n := by omega
        have hlow' : decide (n < 55296) = false := decide_eq_false hlow
        clear hsur
        by_cases hffff : n ≤ 65535
        · have g2 : decide (65535 < n) = false := decide_eq_false (by omega)
          have g5 : 255 < n := by omega
          obtain ⟨capA, VA, BA⟩ := bytes_of xA (by omega) W2
          have rA := BA.run
          have HBYA := Lib.hid BA
          clear BA
          go_wp2_with fail
          refine (take_txt HBYA.out HB2.out HS.out (by omega) _ rfl _ TAS.out).mono ?_
          rintro e XA ⟨vA, hvA, rfl, hbA⟩
          have HBXA := Lib.hid hbA
          obtain rfl : vA = Utf8.encode n := byt_inj (by rw [hvA, HVE.out]; rfl)
          try clear hvA
          clear hbA rA HBYA
          simp only [tkN, Option.isSome]
          obtain ⟨capB, VB, BB⟩ := bytes_of xB (by omega) XA
          have rB := BB.run
          have HBYB := Lib.hid BB
          clear BB
          go_wp2_with fail
          refine (take_txt HBYB.out HBXA.out HS.out (by omega) _ rfl _ (TBS.out (by omega))).mono ?_
          rintro e XB ⟨vB, hvB, rfl, hbB⟩
          have HBXB := Lib.hid hbB
          obtain rfl : vB = Utf8.encode n := byt_inj (by rw [hvB, HVE.out]; rfl)
          try clear hvB
          clear hbB rB HBYB
          simp only [tkN, Option.isSome]
          go_wp2_with fail
          refine (wakes_at HBXB.out HS.out).mono ?_
          rintro e WZ ⟨rfl, hbz⟩
          have HBZ := Lib.hid hbz
          clear hbz
          go_wp2_with fail
          go_ret
          exact ⟨rfl, HBZ.out⟩
        · have g2 : 65535 < n := by omega
          clear hffff
          obtain ⟨capA, VA, BA⟩ := bytes_of xA (by omega) W2
          have rA := BA.run
          have HBYA := Lib.hid BA
          clear BA
          go_wp2_with fail
          refine (take_txt HBYA.out HB2.out HS.out (by omega) _ rfl _ TAS.out).mono ?_
          rintro e XA ⟨vA, hvA, rfl, hbA⟩
          have HBXA := Lib.hid hbA
          obtain rfl : vA = Utf8.encode n := byt_inj (by rw [hvA, HVE.out]; rfl)
          try clear hvA
          clear hbA rA HBYA
          simp only [tkN, Option.isSome]
          go_wp2_with fail
          refine (wakes_at HBXA.out HS.out).mono ?_
          rintro e WZ ⟨rfl, hbz⟩
          have HBZ := Lib.hid hbz
          clear hbz
          go_wp2_with fail
          go_ret
          exact ⟨rfl, HBZ.out⟩


set_option maxRecDepth 100000 in
theorem lifted (os : Os) (started : os.Started) (H : Type) (enc : TypeId × Value → H) :
    ReturnsInHanded {} Tryd.checked os 8 .any (fun w args => (Rows.doubleRunesSpec.pre enc Tryd.prog Tryd.f8 Rows.doubleRunesRow.domain false w args ∧ laidMetH Tryd.prog Rows.doubleRunesRow.laid w) ∧ sizedMet enc Tryd.prog Tryd.f8 (OpenSpec.ofChange Rows.doubleRunesSpec) false w args)
      (Rows.doubleRunesSpec.post enc Tryd.prog Tryd.f8 false true false false) := by
  refine returns_listed (C := Tryd.checked) (X := fun w _ => laidMetH Tryd.prog Rows.doubleRunesRow.laid w) (fun _ _ _ hh h => h.of_heap hh) own started (by kernel_rfl) Tryd.func8
    (ChangeSpec.witness_shaped (enc := enc) (C := Tryd.checked) (os := os) (X := fun w _ => laidMetH Tryd.prog Rows.doubleRunesRow.laid w) false (World.laidAll Tryd.prog os Rows.doubleRunesRow.laid) #[.int .u32 0, .bool false] 8 (World.laidAll_os _ _ _)
      (World.shaped_of_ZipB (by kernel_rfl) (by kernel_rfl)) (by kernel_rfl) (by kernel_rfl) (by kernel_rfl)
      (by rw [MakeChecks.laidMetH_plain _ _ _ (by kernel_rfl)]; exact laidMet_laidAll _ (by kernel_rfl) (by kernel_rfl))) ?_
  intro W base args ds gs before hval0 hW hX hsh
  have hval : ∀ (j : Nat) t v, Tryd.f8.params[j]? = some t → args[j]? = some v → Value.okWide Tryd.prog W .any base t v := hval0
  have hW' := hW
  obtain ⟨p, q, hA0, hV, rfl, hfz, hnd⟩ := hW
  have hA : DataW.TrodAll enc Tryd.prog W 0 (fun _ => true) true Tryd.f8.params.toList args.toList ds p := hA0
  rw [Tryd.params8] at hA hval
  obtain ⟨v0, vs0, d0, ds0, p0, q0, hargs, rfl, rfl, h0, r0⟩ := trodAll_cons hA
  obtain ⟨v1, vs1, d1, ds1, p1, q1, rfl, rfl, rfl, h1, r1⟩ := trodAll_cons r0
  obtain ⟨rfl, rfl, rfl⟩ := trodAll_nil r1
  obtain rfl : args = #[v0, v1] := by cases args; simp_all
  obtain ⟨rfl, rfl⟩ := trodVars_none hV
  obtain ⟨a0, rfl, rfl, rfl, w0⟩ := open_int Tryd.underlying32 (hval 0 32 v0 rfl rfl) h0
  obtain ⟨a1, rfl, rfl, rfl⟩ := open_bool Tryd.underlying4 (hval 1 4 v1 rfl rfl) h1
  clear hA0 hval0
  refine (walk a0 a1 W w0 (shorts_laid hX)).mono fun e W' ⟨he, bel⟩ => ?_
  subst he
  exact ⟨_, rfl, _, _, _, [], _, [], hW', trodAll_mk1 (shut_bool Tryd.underlying4 _), (trodAll_cons_mk (shut_int Tryd.underlying32 w0) (trodAll_cons_mk (shut_bool Tryd.underlying4 _) trodAll_mk0)), rfl, bel.frame _, fun h => by cases h⟩

theorem over : Rows.doubleRunesRow.holds Tryd.pinned (OpenSpec.ofChange Rows.doubleRunesSpec) :=
  OpenClaim.holds_of_wide 8 Tryd.f8 rfl rfl rfl rfl rfl rfl rfl ⟨rfl, rfl, rfl, rfl, rfl⟩ rfl rfl rfl rfl rfl (by kernel_rfl) Tryd.func8 (by kernel_rfl)
    (of_decide_eq_true (by kernel_rfl)) (by unfold Func.isWrapper; first | (rw [if_pos (by decide +kernel)]; kernel_rfl) | (rw [if_neg (by decide +kernel)]; exact ⟨rfl, rfl⟩))
    (fun os started H enc _ => lifted os started H enc)

theorem proved : Rows.DoubleRunesCardSaid :=
  Claim7.holds_tied_plain_at .later [] [.data] true (true, "ab909530bb952c5f780ce0eaafa1f0b2631ff06e5414448791499cdd5477867f") false over (fun _ h => by cases h) (by kernel_rfl) (fun _ h => by cases h) doubleRunes_row_tie rfl ⟨rfl, rfl⟩ (by kernel_rfl) rfl
    (fun f fn hf hfn => by
      obtain rfl : f = 8 := Option.some.inj ((show Tryd.prog.funcNamed Rows.doubleRunesRow.func = some 8 by kernel_rfl).symm.trans hf) |>.symm
      obtain rfl : fn = Tryd.f8 := (Option.some.inj (Tryd.func8.symm.trans hfn)).symm
      exact ⟨by kernel_rfl, fun j t ht => by
        rw [Tryd.params8] at ht
        have hm : t ∈ [32, 4] := by simpa using Array.mem_of_getElem? ht
        have hall : ([32, 4].all fun u => !Tryd.prog.wantsStandIn u) = true := by kernel_rfl
        exact (show Tryd.prog.wantsStandIn t = false by simpa using List.all_eq_true.1 hall t hm)⟩)
    (by kernel_rfl)
#print axioms proved
end Go.Proofs.YtgiloooandiokaaDoor.doubleRunes
