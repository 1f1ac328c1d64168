/- The document's PutDouble. -/
import Derived.Test.YtdjpdcjljpmfnaaDoorDbRef
import Derived.Test.YtdjpdcjljpmfnaaDoorDbPut
import Derived.Test.YtdjpdcjljpmfnaaDoorCharsRef
namespace Go.Proofs.YtdjpdcjljpmfnaaDoor
open Go.RowKit
set_option linter.unusedVariables false
set_option maxRecDepth 100000

def fl (r : Int) (k : Nat) : Int := (shL.take k).foldl (fun c x => if x.2 = r then x.1 else c) 0
theorem fl_step (r : Int) (k : Nat) (x : Int × Int) (hx : shL[k]? = some x) : fl r (k + 1) = if x.2 = r then x.1 else fl r k := by
  unfold fl
  rw [List.take_add_one, hx, Option.toList_some, List.foldl_append]
  rfl
theorem fl_none (r : Int) : ∀ (l : List (Int × Int)) (c : Int), (∀ x ∈ l, x.2 ≠ r) → l.foldl (fun c x => if x.2 = r then x.1 else c) c = c := by
  intro l
  induction l with
  | nil => intro c _; rfl
  | cons x l ih =>
    intro c h
    rw [List.foldl_cons, if_neg (h x (by simp))]
    exact ih c (fun y hy => h y (by simp [hy]))
theorem fl_hits : ∀ x ∈ shL, fl x.2 15 = x.1 := by decide +kernel
theorem fl_end (r : Int) : fl r 15 = (letR r).getD 0 := by
  cases h : letR r with
  | some c => exact fl_hits _ (letR_mem h)
  | none =>
    unfold fl
    refine fl_none r _ 0 (fun x hx he => ?_)
    have hm : x ∈ shL := List.mem_of_mem_take hx
    have := (shL_ok x hm).2.1
    rw [he, h] at this
    cases this
def litC : Array Value := #[.int .u8 48, .int .u8 97, .int .u8 98, .int .u8 116, .int .u8 110, .int .u8 118, .int .u8 102, .int .u8 114, .int .u8 101, .int .u8 34, .int .u8 92, .int .u8 78, .int .u8 95, .int .u8 76, .int .u8 80]
theorem lit_at (k : Nat) (hk : k < 15) : ∃ x q, shL[k]? = some (x, q) ∧ litC[k]? = some (.int .u8 x) := by
  match k, hk with
  | 0, _ => exact ⟨_, _, rfl, rfl⟩
  | 1, _ => exact ⟨_, _, rfl, rfl⟩
  | 2, _ => exact ⟨_, _, rfl, rfl⟩
  | 3, _ => exact ⟨_, _, rfl, rfl⟩
  | 4, _ => exact ⟨_, _, rfl, rfl⟩
  | 5, _ => exact ⟨_, _, rfl, rfl⟩
  | 6, _ => exact ⟨_, _, rfl, rfl⟩
  | 7, _ => exact ⟨_, _, rfl, rfl⟩
  | 8, _ => exact ⟨_, _, rfl, rfl⟩
  | 9, _ => exact ⟨_, _, rfl, rfl⟩
  | 10, _ => exact ⟨_, _, rfl, rfl⟩
  | 11, _ => exact ⟨_, _, rfl, rfl⟩
  | 12, _ => exact ⟨_, _, rfl, rfl⟩
  | 13, _ => exact ⟨_, _, rfl, rfl⟩
  | 14, _ => exact ⟨_, _, rfl, rfl⟩
  | k + 15, h => omega
theorem esc1_let (x : Int × Int) (h : x ∈ shL) : esc1 x.1 = x.2 := by
  have hs := shL_ok x h
  unfold esc1
  rw [if_neg (by omega), hs.2.2.1]; rfl

set_option maxHeartbeats 4000000 in
set_option maxRecDepth 100000 in
theorem refPut_any (s : ByteArray) (w : World) (hs : s.size ≤ 1000000) (o : Option (List Int)) (ho : putD (byt s) = o) :
    Calls Tryd.prog 22 #[.string s] w (PutP o w) := by
  have HO : Hid (pqAt (byt s) [34] 0 = o) := by show _ = _; rw [pqAt_start, ho]
  obtain ⟨c, V, B⟩ := bytes_of s (by omega) w
  have hrun := B.run
  have hle := B.le
  have hmax := B.max
  have HV : Hid (Below w.heap.size w V) := B.below
  have HRV : Hid (RdB V (some ⟨w.heap.size, 0, none⟩) (byt s)) := B.rd
  have HY : Hid (Byte (byt s)) := byt_byte s
  have HL : Hid ((byt s).length = s.size) := byt_len s
  have HLIT := Lib.hid lit_at
  clear B ho
  generalize byt s = zs at *
  generalize s.size = n at *
  go_enter Tryd.func22, Tryd.ntmps22
  go_wp2_with fail
  clear hrun
  go_loopw [2, 3, 4, 5] (fun r1 r2 b v W => ∃ (k m cc : Nat) (A' : Option Addr) (t : ByteArray), k + m = n ∧ k + cc = c ∧ t.size ≤ 1 + 10 * k ∧ r1 = .string ⟨#[]⟩ ∧ r2 = .bool false ∧ v = .string t ∧ b = .slice A' m cc ∧
    Hid (pqAt zs (byt t) k = o ∧ RdB V A' (zs.drop k) ∧ (A' = none → cc = 0) ∧ Below V.heap.size V W)) (fun _ _ b _ _ => lenV b)
  case atStart => exact ⟨0, n, c, _, ⟨#[34]⟩, by omega, by omega, by decide, rfl, rfl, rfl, rfl, HO.out, (by simpa using HRV.out), (fun h => by cases h), Below.refl _ _⟩
  case round =>
    obtain ⟨k, m, cc, A', t, hkm, hkc, htk, rfl, rfl, rfl, rfl, HK⟩ := hrel
    obtain ⟨W, hW⟩ : ∃ x, x = wr := ⟨_, rfl⟩
    subst hW
    have hmc : m ≤ cc := by omega
    have hcc : cc ≤ 9223372036854775807 := by omega
    have HKM := Lib.hid (And.intro hkm hkc)
    have hkn : k ≤ n := by omega
    clear hkm hkc
    obtain ⟨hao, hrA, hA', hbel⟩ := HK.out
    have HB := Lib.hid hbel
    have HAO := Lib.hid hao
    have HRA := Lib.hid hrA
    have HA' := Lib.hid hA'
    clear hao hrA hA' hbel HK
    by_cases h0 : 0 < m
    · have hd : (0 : Int) < (m : Int) := by omega
      have hkz : k < zs.length := by have := HKM.out; rw [HL.out]; omega
      obtain ⟨r, j, ok, hrf, hj1, hj2, hj4, hgood⟩ := rune_next zs HY.out k hkz
      have hly : (zs.drop k).length = m := by have := HKM.out; rw [List.length_drop, HL.out]; omega
      have hjm : j ≤ m := by rw [HL.out] at hj2; have := HKM.out; omega
      have CR := Lib.hid (refRune_at A' m cc (zs.drop k) W r (j : Int) ok hly hmc hcc (HY.out.drop k) (HRA.out.below HB.out) hrf)
      cases ok
      · have hv : o = none := by rw [← HAO.out, pqAt_bad zs (byt t) k hkz r j hrf]
        subst hv
        clear hgood hrf hly hkz
        go_wp2_with (go_at_call 39; refine CR.out.mono ?_; rintro e w' ⟨rfl, rfl⟩)
        go_ret2
        exact ⟨⟨#[]⟩, rfl, rfl, below_step HV.out HB.out⟩
      · have hok := (hgood rfl).1
        have HUT := Lib.hid (hgood rfl).2
        have HO2 : Hid (pqAt zs (byt t ++ wrF r) (k + j) = o) := by show _ = _; rw [← HAO.out, pqAt_good zs (byt t) k hkz r j hrf]
        obtain ⟨A2, hsl, hA2, hrd⟩ := slice_lI A' m cc j (j : Int) rfl (zs.drop k) hly hmc HA'.out hjm
        have HR2 : Hid (RdB V A2 (zs.drop (k + j))) := by
          have := hrd V HRA.out
          rwa [List.drop_drop] at this
        have hslh := slice_h A' m cc j hjm hmc HA'.out
        have HA2 := Lib.hid hA2
        have HOK := Lib.hid hok
        have hok1 := (okR_parts hok).1
        have hok2 := (okR_parts hok).2.1
        clear hgood hrf hly hkz hok hA2 hrd
        obtain ⟨V1, hV1⟩ : ∃ V1, W.alloc (.cells litC 5 (litC.size, litC.size + 1)) = V1 := ⟨_, rfl⟩
        have HC1 : Hid (∀ i x, litC[i]? = some x → V1.cell? ⟨W.heap.size, i, none⟩ = some x) := by
          intro i x hx
          rw [← hV1, World.cell?_alloc_mark]; exact hx
        have HB1 : Hid (Below V.heap.size V V1) := hV1 ▸ below_step HB.out ((Below.refl _ _).alloc (Nat.le_refl _) _)
        have hV2 : (convert 37 37 (.slice (some ⟨W.heap.size, 0, none⟩) 15 15)).run Tryd.prog (W.alloc (.cells #[.int .u8 48, .int .u8 97, .int .u8 98, .int .u8 116, .int .u8 110, .int .u8 118, .int .u8 102, .int .u8 114, .int .u8 101, .int .u8 34, .int .u8 92, .int .u8 78, .int .u8 95, .int .u8 76, .int .u8 80] 5)) = .ok (.slice (some ⟨W.heap.size, 0, none⟩) 15 15) V1 := by
          rw [← hV1]
          exact Lib.run_convert_bytes_const (P := Tryd.prog) W 37 5 litC 15 15 Tryd.underlying37 Tryd.underlying5
        clear hV1
        go_wp2_with (go_at_call 39; refine CR.out.mono ?_; rintro e w' ⟨rfl, rfl⟩)
        clear hV2
        generalize W.heap.size = g at *
        go_loopw [9, 28] (fun cv iv U => ∃ (i : Nat) (x : Int), i ≤ 15 ∧ iv = .int .i64 (i : Int) ∧ cv = .int .u8 x ∧ Hid (fl r i = x ∧ Below V1.heap.size V1 U)) (fun _ iv _ => 15 - (intOf iv).toNat)
        case atStart => exact ⟨0, 0, by omega, rfl, rfl, rfl, Below.refl _ _⟩
        case round =>
          obtain ⟨i, cx, hi, rfl, rfl, HI⟩ := hrel
          obtain ⟨U, hU⟩ : ∃ x, x = wr := ⟨_, rfl⟩
          subst hU
          have HBU := Lib.hid HI.out.2
          have HFL := Lib.hid HI.out.1
          clear HI
          by_cases hi15 : i < 15
          · have di : (i : Int) < 15 := by omega
            obtain ⟨x, q, hx, hcx⟩ := HLIT.out i hi15
            have hst := fl_step r i (x, q) hx
            have hmem : (x, q) ∈ shL := List.mem_of_getElem? hx
            have hsx := shL_ok _ hmem
            have hx0 := hsx.2.2.2.1
            have hx1 := hsx.2.2.2.2.1
            have cell : U.cell? ⟨g, i, none⟩ = some (.int .u8 x) := cell_keep HBU.out (HC1.out i _ hcx)
            have CE := Lib.hid (refEscape_any x U (by omega) (by omega) q (esc1_let _ hmem))
            clear hx hcx hsx hmem
            by_cases hqr : q = r
            · have HN : Hid (fl r (i + 1) = x) := by show _ = _; rw [hst, if_pos hqr]
              have eq : (q == r) = true := beq_iff_eq.2 hqr
              clear hst hqr HFL
              go_wp2_with fail
              refine CE.out.mono ?_
              rintro e U2 ⟨rfl, hb2⟩
              have HB2 := Lib.hid (below_step HBU.out hb2)
              clear hb2 CE
              go_wp2_with fail
              go_roundw
              case rel => exact ⟨i + 1, x, by omega, by go_num, rfl, HN.out, HB2.out⟩
              case measure => simp [intOf]; omega
            · have HN : Hid (fl r (i + 1) = cx) := by show _ = _; rw [hst, if_neg hqr, HFL.out]
              have eq : (q == r) = false := beq_eq_false_iff_ne.2 hqr
              clear hst hqr HFL
              go_wp2_with fail
              refine CE.out.mono ?_
              rintro e U2 ⟨rfl, hb2⟩
              have HB2 := Lib.hid (below_step HBU.out hb2)
              clear hb2 CE
              go_wp2_with fail
              go_roundw
              case rel => exact ⟨i + 1, cx, by omega, by go_num, rfl, HN.out, HB2.out⟩
              case measure => simp [intOf]; omega
          · obtain rfl : i = 15 := by omega
            have hcx : cx = (letR r).getD 0 := by rw [← HFL.out, fl_end]
            have HBV := Lib.hid (below_step HB1.out HBU.out)
            clear HFL HBU HC1 HLIT CR
            cases hlet : letR r with
            | some z =>
              have hzs := shL_ok _ (letR_mem hlet)
              have hw : wrF r = [92, z] := by unfold wrF; rw [hlet]
              rw [hlet] at hcx
              obtain rfl : cx = z := hcx
              have hz0 := hzs.2.2.2.2.2.2.2.2.2.2.2.2.2.1
              have hz1 := hzs.2.2.2.2.1
              have ez : (cx != 0) = true := bne_iff_ne.2 (by simp only [] at hz0; omega)
              have hcv := run_string_rd (U.alloc (.cells #[.int .u8 cx] 5)) (some ⟨U.heap.size, 0, none⟩) 1 1 [cx] rfl
                (RdB.new rfl (fun k y hy => by
                  match k with
                  | 0 => simp at hy; subst hy; rfl
                  | k + 1 => simp at hy))
              have hy1 : byt (strOfNums [cx]) = [cx] := byt_strOfNums _ (by intro y hy; simp at hy; subst hy; simp only [] at hz0 hz1; omega)
              generalize strOfNums [cx] = y1 at *
              obtain ⟨y2, hy2⟩ : ∃ y, (⟨#[92]⟩ : ByteArray) ++ y1 = y := ⟨_, rfl⟩
              obtain ⟨y3, hy3⟩ : ∃ y, t ++ y2 = y := ⟨_, rfl⟩
              have hs1 : y1.size = 1 := by rw [← byt_len, hy1]; rfl
              have hs2 : y2.size = 2 := by rw [← hy2, ByteArray.size_append, hs1]; rfl
              have hs3 : y3.size ≤ 1 + 10 * (k + j) := by rw [← hy3, ByteArray.size_append]; omega
              have HX : Hid (pqAt zs (byt y3) (k + j) = o) := by
                show _ = _
                rw [← HO2.out, ← hy3, byt_append, ← hy2, byt_append, hy1, hw]; rfl
              have HBW : Hid (Below V.heap.size V (U.alloc (.cells #[.int .u8 cx] 5))) := below_step HBV.out ((Below.refl _ _).alloc (Nat.le_refl _) _)
              clear hw hzs hy1 hlet hz0 hz1 HO2 HUT HBV hslh HOK
              have hs1' : y1.size ≤ 1 := by omega
              clear hs1
              have hs2' : y2.size ≤ 2 := by omega
              clear hs2
              go_wp2_with fail
              exact ⟨⟨k + j, m - j, cc - j, A2, y3, by have := HKM.out; omega, by have := HKM.out; omega, hs3, rfl, rfl, rfl, rfl, HX.out, HR2.out, HA2.out, HBW.out⟩, by simp only [lenV]; omega⟩
            | none =>
              rw [hlet] at hcx
              obtain rfl : cx = 0 := hcx
              have HW : Hid (wrF r = if prt r = true then utfF r else if r ≤ 255 then 92 :: 120 :: hexF r 2 else if r ≤ 65535 then 92 :: 117 :: hexF r 4 else 92 :: 85 :: hexF r 8) := by
                show _ = _
                unfold wrF; rw [hlet]
              clear hlet
              cases hp : prt r
              · by_cases q1 : r ≤ 255
                · have HR : Hid (wrF r = 92 :: 120 :: hexF r 2) := by show _ = _; rw [HW.out, hp, if_neg (by simp), if_pos q1]
                  have HP := Lib.hid hp
                  clear HW hp
                  go_wp2_with (go_at_call 41; refine (refPrt_any _ _).mono ?_; rintro e w' ⟨rfl, rfl⟩; rw [HP.out])
                  refine (refHex_any r 2 U hok1 (by omega) (by omega)).mono ?_
                  rintro e U2 ⟨y1, hy1, rfl, hb2⟩
                  have HBW := Lib.hid (below_step HBV.out hb2)
                  have hy1 : byt y1 = hexF r 2 := hy1
                  obtain ⟨y2, hy2⟩ : ∃ y, (⟨#[92, 120]⟩ : ByteArray) ++ y1 = y := ⟨_, rfl⟩
                  obtain ⟨y3, hy3⟩ : ∃ y, t ++ y2 = y := ⟨_, rfl⟩
                  have hs1 : y1.size = 2 := by rw [← byt_len, hy1, hexF_len]
                  have hs2 : y2.size = 2 + 2 := by rw [← hy2, ByteArray.size_append, hs1]; rfl
                  have hs3 : y3.size ≤ 1 + 10 * (k + j) := by rw [← hy3, ByteArray.size_append]; omega
                  have HX : Hid (pqAt zs (byt y3) (k + j) = o) := by
                    show _ = _
                    rw [← HO2.out, ← hy3, byt_append, ← hy2, byt_append, hy1, HR.out]; rfl
                  have hs1' : y1.size ≤ 8 := by omega
                  have hs2' : y2.size ≤ 10 := by omega
                  clear hy1 hb2 HR HO2 HUT HOK hslh hs1 hs2
                  go_wp2_with fail
                  exact ⟨⟨k + j, m - j, cc - j, A2, y3, by have := HKM.out; omega, by have := HKM.out; omega, hs3, rfl, rfl, rfl, rfl, HX.out, HR2.out, HA2.out, HBW.out⟩, by simp only [lenV]; omega⟩
                have q1' : decide (r ≤ 255) = false := decide_eq_false (by omega)
                by_cases q2 : r ≤ 65535
                · have HR : Hid (wrF r = 92 :: 117 :: hexF r 4) := by show _ = _; rw [HW.out, hp, if_neg (by simp), if_neg q1, if_pos q2]
                  have HP := Lib.hid hp
                  clear HW hp
                  go_wp2_with (go_at_call 41; refine (refPrt_any _ _).mono ?_; rintro e w' ⟨rfl, rfl⟩; rw [HP.out])
                  refine (refHex_any r 4 U hok1 (by omega) (by omega)).mono ?_
                  rintro e U2 ⟨y1, hy1, rfl, hb2⟩
                  have HBW := Lib.hid (below_step HBV.out hb2)
                  have hy1 : byt y1 = hexF r 4 := hy1
                  obtain ⟨y2, hy2⟩ : ∃ y, (⟨#[92, 117]⟩ : ByteArray) ++ y1 = y := ⟨_, rfl⟩
                  obtain ⟨y3, hy3⟩ : ∃ y, t ++ y2 = y := ⟨_, rfl⟩
                  have hs1 : y1.size = 4 := by rw [← byt_len, hy1, hexF_len]
                  have hs2 : y2.size = 4 + 2 := by rw [← hy2, ByteArray.size_append, hs1]; rfl
                  have hs3 : y3.size ≤ 1 + 10 * (k + j) := by rw [← hy3, ByteArray.size_append]; omega
                  have HX : Hid (pqAt zs (byt y3) (k + j) = o) := by
                    show _ = _
                    rw [← HO2.out, ← hy3, byt_append, ← hy2, byt_append, hy1, HR.out]; rfl
                  have hs1' : y1.size ≤ 8 := by omega
                  have hs2' : y2.size ≤ 10 := by omega
                  clear hy1 hb2 HR HO2 HUT HOK hslh hs1 hs2
                  go_wp2_with fail
                  exact ⟨⟨k + j, m - j, cc - j, A2, y3, by have := HKM.out; omega, by have := HKM.out; omega, hs3, rfl, rfl, rfl, rfl, HX.out, HR2.out, HA2.out, HBW.out⟩, by simp only [lenV]; omega⟩
                · have HR : Hid (wrF r = 92 :: 85 :: hexF r 8) := by show _ = _; rw [HW.out, hp, if_neg (by simp), if_neg q1, if_neg q2]
                  have q2' : decide (r ≤ 65535) = false := decide_eq_false (by omega)
                  have HP := Lib.hid hp
                  clear HW hp
                  go_wp2_with (go_at_call 41; refine (refPrt_any _ _).mono ?_; rintro e w' ⟨rfl, rfl⟩; rw [HP.out])
                  refine (refHex_any r 8 U hok1 (by omega) (by omega)).mono ?_
                  rintro e U2 ⟨y1, hy1, rfl, hb2⟩
                  have HBW := Lib.hid (below_step HBV.out hb2)
                  have hy1 : byt y1 = hexF r 8 := hy1
                  obtain ⟨y2, hy2⟩ : ∃ y, (⟨#[92, 85]⟩ : ByteArray) ++ y1 = y := ⟨_, rfl⟩
                  obtain ⟨y3, hy3⟩ : ∃ y, t ++ y2 = y := ⟨_, rfl⟩
                  have hs1 : y1.size = 8 := by rw [← byt_len, hy1, hexF_len]
                  have hs2 : y2.size = 8 + 2 := by rw [← hy2, ByteArray.size_append, hs1]; rfl
                  have hs3 : y3.size ≤ 1 + 10 * (k + j) := by rw [← hy3, ByteArray.size_append]; omega
                  have HX : Hid (pqAt zs (byt y3) (k + j) = o) := by
                    show _ = _
                    rw [← HO2.out, ← hy3, byt_append, ← hy2, byt_append, hy1, HR.out]; rfl
                  have hs1' : y1.size ≤ 8 := by omega
                  have hs2' : y2.size ≤ 10 := by omega
                  clear hy1 hb2 HR HO2 HUT HOK hslh hs1 hs2
                  go_wp2_with fail
                  exact ⟨⟨k + j, m - j, cc - j, A2, y3, by have := HKM.out; omega, by have := HKM.out; omega, hs3, rfl, rfl, rfl, rfl, HX.out, HR2.out, HA2.out, HBW.out⟩, by simp only [lenV]; omega⟩
              · have hw : wrF r = (zs.drop k).take j := by rw [HW.out, hp, if_pos rfl, HUT.out]
                have HP := Lib.hid hp
                have hrt : RdB U A' ((zs.drop k).take j) := (HRA.out.below HBV.out).take j
                have htl : ((zs.drop k).take j).length = j := by
                  have := HKM.out
                  rw [List.length_take, List.length_drop, HL.out]; omega
                have hcv := run_string_rd U A' j cc _ htl hrt
                have hy1 : byt (strOfNums ((zs.drop k).take j)) = wrF r := by rw [hw]; exact byt_strOfNums _ ((HY.out.drop k).take j)
                generalize strOfNums ((zs.drop k).take j) = y1 at *
                obtain ⟨y3, hy3⟩ : ∃ y, t ++ y1 = y := ⟨_, rfl⟩
                have hs1 : y1.size ≤ 10 := by rw [← byt_len, hy1]; exact (wrF_len r).2
                have hs3 : y3.size ≤ 1 + 10 * (k + j) := by rw [← hy3, ByteArray.size_append]; omega
                have HX : Hid (pqAt zs (byt y3) (k + j) = o) := by show _ = _; rw [← HO2.out, ← hy3, byt_append, hy1]
                clear hw hp hrt htl hy1 HW HO2 HUT HOK
                go_wp2_with (go_at_call 41; refine (refPrt_any _ _).mono ?_; rintro e w' ⟨rfl, rfl⟩; rw [HP.out])
                exact ⟨⟨k + j, m - j, cc - j, A2, y3, by have := HKM.out; omega, by have := HKM.out; omega, hs3, rfl, rfl, rfl, rfl, HX.out, HR2.out, HA2.out, HBV.out⟩, by simp only [lenV]; omega⟩
    · have hd : decide ((0 : Int) < (m : Int)) = false := decide_eq_false (by omega)
      have hv : o = some (byt t ++ [34]) := by rw [← HAO.out, pqAt_end zs (byt t) k (by have := HKM.out; rw [HL.out]; omega)]
      have HVV := Lib.hid hv
      obtain ⟨y3, hy3⟩ : ∃ y, t ++ (⟨#[34]⟩ : ByteArray) = y := ⟨_, rfl⟩
      have HX : Hid (byt y3 = byt t ++ [34]) := by show _ = _; rw [← hy3, byt_append]; rfl
      have htb : t.size ≤ 10000001 := by omega
      have HBW := Lib.hid (below_step HV.out HB.out)
      clear hv
      go_wp2_with fail
      go_ret2
      exact ⟨y3, by rw [HX.out, HVV.out]; rfl, by rw [HVV.out]; rfl, HBW.out⟩
end Go.Proofs.YtdjpdcjljpmfnaaDoor
