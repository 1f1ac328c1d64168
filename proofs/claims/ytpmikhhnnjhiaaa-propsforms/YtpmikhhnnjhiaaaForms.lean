/-
  Proved: the law 'scholium/scholiumlaw10.PropsForms' returns true for every input, and every argument reads as it did before. No conditions.
-/
import Derived.Test.YtpmikhhnnjhiaaaRows
import Derived.Test.YtpmikhhnnjhiaaaPrForms
import Derived.WalkKit
import Derived.ProofKit
import Derived.OpenShut
import Derived.ShutString
namespace Go.Proofs.Ytpmikhhnnjhiaaa.propsForms
open Go.ChangeShapes Go.WideShapes Go.ChangeAt Go.RowKit
open Go.ChangeMaps (open_string shut_string)
set_option linter.unusedVariables false      -- a walk need not use every 'w<i>' (that an integer argument fits its kind)

theorem own : ownKnob Try.prog.godebug = none := by kernel_rfl

set_option maxRecDepth 100000
set_option linter.unusedSimpArgs false in
set_option maxHeartbeats 8000000 in
theorem walk (a0 : Int) (w0 : (Lit.int .i64 a0).wf = true) (w : World) :
    Calls Try.prog 3 #[.int .i64 a0] w fun e w' => e = .returned (.bool true) ∧ Below w.heap.size w w' := by
  have hb0 := bounds_i64 w0
  go_enter Try.func3, Try.ntmps3
  go_wp2_with fail
  refine (within_nat a0 8 _ (by omega) (by omega) (by omega)).mono ?_
  rintro e w' ⟨q, hq, rfl, rfl⟩
  go_upto_region 2 with fail
  have hcs := letter_at ⟨q, hq⟩
  have hbad := bad_all ⟨q, hq⟩
  have hgood := good_all ⟨q, hq⟩
  simp only at hcs hbad hgood
  generalize ((⟨#[97, 98, 99, 100, 101, 102, 103, 104]⟩ : ByteArray).extract q 8).extract 0 1 = cs at *
  obtain ⟨x, hx⟩ : ∃ x : Int, 97 + (q : Int) = x := ⟨_, rfl⟩
  rw [hx] at hcs hbad hgood
  have hcsz : cs.size ≤ 1 := by rw [← byt_len, hcs]; exact Nat.le_refl _
  clear hx
  obtain ⟨s1, h_s1⟩ : ∃ u, (⟨#[38, 32]⟩ : ByteArray) ++ cs = u := ⟨_, rfl⟩
  have b_s1 : byt s1 = [38, 32, x] := by rw [← h_s1, byt_append, hcs]; rfl
  have z_s1 : s1.size ≤ 3 := by rw [← byt_len, b_s1]; exact Nat.le_refl _
  obtain ⟨sa, h_sa⟩ : ∃ u, (⟨#[38]⟩ : ByteArray) ++ cs = u := ⟨_, rfl⟩
  have b_sa : byt sa = [38, x] := by rw [← h_sa, byt_append, hcs]; rfl
  have z_sa : sa.size ≤ 2 := by rw [← byt_len, b_sa]; exact Nat.le_refl _
  obtain ⟨s2, h_s2⟩ : ∃ u, sa ++ (⟨#[33]⟩ : ByteArray) = u := ⟨_, rfl⟩
  have b_s2 : byt s2 = [38, x, 33] := by rw [← h_s2, byt_append, b_sa]; rfl
  have z_s2 : s2.size ≤ 3 := by rw [← byt_len, b_s2]; exact Nat.le_refl _
  obtain ⟨s3, h_s3⟩ : ∃ u, sa ++ (⟨#[38, 98]⟩ : ByteArray) = u := ⟨_, rfl⟩
  have b_s3 : byt s3 = [38, x, 38, 98] := by rw [← h_s3, byt_append, b_sa]; rfl
  have z_s3 : s3.size ≤ 4 := by rw [← byt_len, b_s3]; exact Nat.le_refl _
  obtain ⟨s4, h_s4⟩ : ∃ u, sa ++ (⟨#[32, 38, 98]⟩ : ByteArray) = u := ⟨_, rfl⟩
  have b_s4 : byt s4 = [38, x, 32, 38, 98] := by rw [← h_s4, byt_append, b_sa]; rfl
  have z_s4 : s4.size ≤ 5 := by rw [← byt_len, b_s4]; exact Nat.le_refl _
  obtain ⟨sb, h_sb⟩ : ∃ u, (⟨#[33]⟩ : ByteArray) ++ cs = u := ⟨_, rfl⟩
  have b_sb : byt sb = [33, x] := by rw [← h_sb, byt_append, hcs]; rfl
  have z_sb : sb.size ≤ 2 := by rw [← byt_len, b_sb]; exact Nat.le_refl _
  obtain ⟨s5, h_s5⟩ : ∃ u, sb ++ (⟨#[33]⟩ : ByteArray) = u := ⟨_, rfl⟩
  have b_s5 : byt s5 = [33, x, 33] := by rw [← h_s5, byt_append, b_sb]; rfl
  have z_s5 : s5.size ≤ 3 := by rw [← byt_len, b_s5]; exact Nat.le_refl _
  obtain ⟨sc, h_sc⟩ : ∃ u, (⟨#[33, 60]⟩ : ByteArray) ++ cs = u := ⟨_, rfl⟩
  have b_sc : byt sc = [33, 60, x] := by rw [← h_sc, byt_append, hcs]; rfl
  have z_sc : sc.size ≤ 3 := by rw [← byt_len, b_sc]; exact Nat.le_refl _
  obtain ⟨s6, h_s6⟩ : ∃ u, sc ++ (⟨#[62]⟩ : ByteArray) = u := ⟨_, rfl⟩
  have b_s6 : byt s6 = [33, 60, x, 62] := by rw [← h_s6, byt_append, b_sc]; rfl
  have z_s6 : s6.size ≤ 4 := by rw [← byt_len, b_s6]; exact Nat.le_refl _
  obtain ⟨s7, h_s7⟩ : ∃ u, sa ++ (⟨#[44]⟩ : ByteArray) = u := ⟨_, rfl⟩
  have b_s7 : byt s7 = [38, x, 44] := by rw [← h_s7, byt_append, b_sa]; rfl
  have z_s7 : s7.size ≤ 3 := by rw [← byt_len, b_s7]; exact Nat.le_refl _
  obtain ⟨m1, h_m1⟩ : ∃ u, (⟨#[32, 38]⟩ : ByteArray) ++ cs = u := ⟨_, rfl⟩
  have b_m1 : byt m1 = [32, 38, x] := by rw [← h_m1, byt_append, hcs]; rfl
  have z_m1 : m1.size ≤ 3 := by rw [← byt_len, b_m1]; exact Nat.le_refl _
  obtain ⟨m2, h_m2⟩ : ∃ u, (⟨#[33, 32]⟩ : ByteArray) ++ cs = u := ⟨_, rfl⟩
  have b_m2 : byt m2 = [33, 32, x] := by rw [← h_m2, byt_append, hcs]; rfl
  have z_m2 : m2.size ≤ 3 := by rw [← byt_len, b_m2]; exact Nat.le_refl _
  obtain ⟨ma, h_ma⟩ : ∃ u, (⟨#[33, 33]⟩ : ByteArray) ++ cs = u := ⟨_, rfl⟩
  have b_ma : byt ma = [33, 33, x] := by rw [← h_ma, byt_append, hcs]; rfl
  have z_ma : ma.size ≤ 3 := by rw [← byt_len, b_ma]; exact Nat.le_refl _
  obtain ⟨mb, h_mb⟩ : ∃ u, ma ++ (⟨#[32, 38]⟩ : ByteArray) = u := ⟨_, rfl⟩
  have b_mb : byt mb = [33, 33, x, 32, 38] := by rw [← h_mb, byt_append, b_ma]; rfl
  have z_mb : mb.size ≤ 5 := by rw [← byt_len, b_mb]; exact Nat.le_refl _
  obtain ⟨mc, h_mc⟩ : ∃ u, mb ++ cs = u := ⟨_, rfl⟩
  have b_mc : byt mc = [33, 33, x, 32, 38, x] := by rw [← h_mc, byt_append, b_mb, hcs]; rfl
  have z_mc : mc.size ≤ 6 := by rw [← byt_len, b_mc]; exact Nat.le_refl _
  obtain ⟨md, h_md⟩ : ∃ u, mc ++ (⟨#[32, 32]⟩ : ByteArray) = u := ⟨_, rfl⟩
  have b_md : byt md = [33, 33, x, 32, 38, x, 32, 32] := by rw [← h_md, byt_append, b_mc]; rfl
  have z_md : md.size ≤ 8 := by rw [← byt_len, b_md]; exact Nat.le_refl _
  obtain ⟨m3, h_m3⟩ : ∃ u, md ++ cs = u := ⟨_, rfl⟩
  have b_m3 : byt m3 = [33, 33, x, 32, 38, x, 32, 32, x] := by rw [← h_m3, byt_append, b_md, hcs]; rfl
  have z_m3 : m3.size ≤ 9 := by rw [← byt_len, b_m3]; exact Nat.le_refl _
  obtain ⟨m4, h_m4⟩ : ∃ u, sa ++ (⟨#[32, 32, 32]⟩ : ByteArray) = u := ⟨_, rfl⟩
  have b_m4 : byt m4 = [38, x, 32, 32, 32] := by rw [← h_m4, byt_append, b_sa]; rfl
  have z_m4 : m4.size ≤ 5 := by rw [← byt_len, b_m4]; exact Nat.le_refl _
  obtain ⟨m5, h_m5⟩ : ∃ u, (⟨#[42]⟩ : ByteArray) ++ cs = u := ⟨_, rfl⟩
  have b_m5 : byt m5 = [42, x] := by rw [← h_m5, byt_append, hcs]; rfl
  have z_m5 : m5.size ≤ 2 := by rw [← byt_len, b_m5]; exact Nat.le_refl _
  obtain ⟨LL, hLL⟩ : ∃ LL : List ByteArray, LL = [⟨#[38]⟩, s1, s2, s3, s4, ⟨#[33, 120, 32, 33, 121]⟩, ⟨#[33, 33]⟩, ⟨#[33, 33, 32, 120]⟩, s5, ⟨#[33, 120, 33, 121]⟩, s6, s7, ⟨#[33, 120, 93]⟩, ⟨#[38, 195, 169]⟩] := ⟨_, rfl⟩
  have hLb : LL.map byt = badL x := by
    rw [hLL]
    simp only [List.map_cons, List.map_nil, b_s1, b_s2, b_s3, b_s4, b_s5, b_s6, b_s7]
    rfl
  obtain ⟨TB, hTB⟩ : ∃ TB : List (ByteArray × Int), TB = [(⟨#[]⟩, 0), (cs, 0), (m1, 0), (sa, 2), (⟨#[33]⟩, 1), (m2, 1), (m3, 6), (m4, 2), (m5, 0)] := ⟨_, rfl⟩
  have hTb : TB.map (fun p => (byt p.1, p.2)) = goodL x := by
    rw [hTB]
    simp only [List.map_cons, List.map_nil, hcs, b_m1, b_sa, b_m2, b_m3, b_m4, b_m5]
    rfl
  obtain ⟨T, hT⟩ : ∃ T : List (List UInt8 × Int), T = TB.map (fun p => (p.1.data.toList, p.2)) := ⟨_, rfl⟩
  have HLF : Hid (∀ j, j < 14 → ∃ d : ByteArray, LL[j]? = some d ∧ d.size ≤ 1000 ∧ takeP (byt d) = ([], [], 0, false)) := by
    intro j hj
    have hlen : LL.length = 14 := by rw [hLL]; rfl
    have hm : byt (LL[j]'(by omega)) ∈ badL x := by rw [← hLb]; exact List.mem_map_of_mem (List.getElem_mem _)
    refine ⟨LL[j]'(by omega), List.getElem?_eq_getElem (by omega), ?_, of_decide_eq_true (List.all_eq_true.1 hbad _ hm)⟩
    rw [← byt_len]
    have : ∀ l ∈ badL x, l.length ≤ 1000 := by intro l hl; simp [badL] at hl; rcases hl with rfl | rfl | rfl | rfl | rfl | rfl | rfl | rfl | rfl | rfl | rfl | rfl | rfl | rfl <;> simp
    exact this _ hm
  have HTF : Hid (TblOk T) := by
    intro s c hm
    rw [hT] at hm
    obtain ⟨p, hp, he⟩ := List.mem_map.1 hm
    have e1 := congrArg Prod.fst he
    have e2 := congrArg Prod.snd he
    simp only at e1 e2
    obtain rfl : p.1 = s := ByteArray.ext (Array.toList_inj.1 e1)
    subst e2
    have hg : (byt p.1, p.2) ∈ goodL x := by rw [← hTb]; exact List.mem_map_of_mem (f := fun p : ByteArray × Int => (byt p.1, p.2)) hp
    have h1 := List.all_eq_true.1 hgood _ hg
    simp only [Bool.and_eq_true, decide_eq_true_eq] at h1
    refine ⟨?_, h1⟩
    rw [← byt_len]
    have : ∀ p ∈ goodL x, p.1.length ≤ 1000 := by intro l hl; simp [goodL] at hl; rcases hl with rfl | rfl | rfl | rfl | rfl | rfl | rfl | rfl | rfl <;> simp
    exact this _ hg
  have HT0 : Hid (((⟨#[]⟩ : ByteArray).data.toList, (0 : Int)) ∈ T) := by show _ ∈ _; rw [hT, hTB]; simp
  have HT1 : Hid ((cs.data.toList, (0 : Int)) ∈ T) := by show _ ∈ _; rw [hT, hTB]; simp
  have HT2 : Hid ((m1.data.toList, (0 : Int)) ∈ T) := by show _ ∈ _; rw [hT, hTB]; simp
  have HT3 : Hid ((sa.data.toList, (2 : Int)) ∈ T) := by show _ ∈ _; rw [hT, hTB]; simp
  have HT4 : Hid (((⟨#[33]⟩ : ByteArray).data.toList, (1 : Int)) ∈ T) := by show _ ∈ _; rw [hT, hTB]; simp
  have HT5 : Hid ((m2.data.toList, (1 : Int)) ∈ T) := by show _ ∈ _; rw [hT, hTB]; simp
  have HT6 : Hid ((m3.data.toList, (6 : Int)) ∈ T) := by show _ ∈ _; rw [hT, hTB]; simp
  have HT7 : Hid ((m4.data.toList, (2 : Int)) ∈ T) := by show _ ∈ _; rw [hT, hTB]; simp
  have HT8 : Hid ((m5.data.toList, (0 : Int)) ∈ T) := by show _ ∈ _; rw [hT, hTB]; simp
  obtain ⟨V0, hV0⟩ : ∃ V, w.alloc (.cells #[.string ⟨#[38]⟩, .string s1, .string s2, .string s3, .string s4, .string ⟨#[33, 120, 32, 33, 121]⟩, .string ⟨#[33, 33]⟩, .string ⟨#[33, 33, 32, 120]⟩, .string s5, .string ⟨#[33, 120, 33, 121]⟩, .string s6, .string s7, .string ⟨#[33, 120, 93]⟩, .string ⟨#[38, 195, 169]⟩] 9) = V := ⟨_, rfl⟩
  have HV0 : Hid (Below w.heap.size w V0 ∧ ∀ k d, LL[k]? = some d → V0.cell? ⟨w.heap.size, k, none⟩ = some (.string d)) := by
    refine ⟨by rw [← hV0]; exact (Below.refl _ _).alloc (Nat.le_refl _) _, fun k d hd => ?_⟩
    rw [← hV0, World.cell?_alloc_mark]
    have : (#[.string ⟨#[38]⟩, .string s1, .string s2, .string s3, .string s4, .string ⟨#[33, 120, 32, 33, 121]⟩, .string ⟨#[33, 33]⟩, .string ⟨#[33, 33, 32, 120]⟩, .string s5, .string ⟨#[33, 120, 33, 121]⟩, .string s6, .string s7, .string ⟨#[33, 120, 93]⟩, .string ⟨#[38, 195, 169]⟩] : Array Value) = (LL.map Value.string).toArray := by rw [hLL]; rfl
    rw [this]; simp [hd]
  clear b_s1 b_sa b_s2 b_s3 b_s4 b_sb b_s5 b_sc b_s6 b_s7 b_m1 b_m2 b_ma b_mb b_mc b_md b_m3 b_m4 b_m5 hcs hbad hgood hLL hLb hTB hTb hT
  go_wp2_with fail
  clear hV0
  go_loopw [2, 40] (fun r i W => ∃ j : Nat, j ≤ 14 ∧ r = .bool false ∧ i = .int .i64 (j : Int) ∧ Hid (Below w.heap.size w W ∧ ∀ k d, LL[k]? = some d → W.cell? ⟨w.heap.size, k, none⟩ = some (.string d))) (fun _ i _ => 14 - (intOf i).toNat)
  case atStart => exact ⟨0, by omega, rfl, rfl, HV0⟩
  case round =>
    obtain ⟨j, hj, rfl, rfl, HK⟩ := hrel
    obtain ⟨W, hW⟩ : ∃ x, x = wr := ⟨_, rfl⟩
    subst hW
    by_cases hlt : j < 14
    · obtain ⟨d, hd, hds, htk⟩ := HLF.out j hlt
      have dj : (j : Int) < 14 := by omega
      have hc := HK.out.2 j d hd
      obtain ⟨cap, W1, B⟩ := bytes_of d (by omega) W
      have hrun := B.run
      have hcap := B.le
      have hcapm := B.max
      have HB := Lib.hid B
      have HTK := Lib.hid htk
      clear B hd htk
      go_wp2_with fail
      refine (take_txt HB.out (Below.refl _ _) (by omega) (byt d) rfl).mono ?_
      rintro e W2 ⟨t', a', ht', ha', rfl, hb2⟩
      rw [HTK.out] at ht' ha' ⊢
      obtain rfl : t' = ⟨#[]⟩ := byt_inj ht'
      obtain rfl : a' = ⟨#[]⟩ := byt_inj ha'
      simp only [show ((0 : Nat) : Int) = 0 from rfl]
      have HB2 := Lib.hid (hb2.alloc hb2.size (.cells #[.string ⟨#[]⟩, .string ⟨#[]⟩] 25))
      clear ht' ha' hb2 HTK hrun hc
      go_wp2_with fail
      go_roundw
      case rel => exact ⟨j + 1, by omega, rfl, by go_num, below_step HK.out.1 HB2.out, fun k d hd => cell_keep HB2.out (HK.out.2 k d hd)⟩
      case measure => simp [intOf]; omega
    · obtain rfl : j = 14 := by omega
      have HBW := Lib.hid HK.out.1
      clear HK HV0 HLF
      go_wp2_with fail
      refine gen_act fun a0 hA => ?_
      have hsz : a0.tmps.size = 105 := by rw [hA]; rfl
      have e3 : a0.eval (.tmp 3) = .string cs := by rw [hA]; rfl
      refine region_gate (fun _ => True) 31 (by kernel_rfl) ?_
      change wpGate _ _ _ _ _ _ 32 _ _ _
      refine gate_take0 (i := 2) (v := .string cs) rfl (by rfl) (by kernel_rfl) (by kernel_rfl) (by kernel_rfl) (fun _ _ _ h => h) rfl (fun V => move_exec _ (.tmp 3) rfl _ _ (by simp [evp_same, evp_ne, szp, hsz, e3]) V) trivial ?_
      refine gate_take0 (i := 4) (v := .string cs) rfl (by rfl) (by kernel_rfl) (by kernel_rfl) (by kernel_rfl) (fun _ _ _ h => h) rfl (fun V => move_exec _ (.tmp 3) rfl _ _ (by simp [evp_same, evp_ne, szp, hsz, e3]) V) trivial ?_
      refine gate_take0 (i := 5) (v := .string m1) rfl (by rfl) (by kernel_rfl) (by kernel_rfl) (by kernel_rfl) (fun _ _ _ h => h) rfl (fun V => add_exec _ (.const (.string ⟨#[32, 38]⟩)) (.tmp 64) _ rfl _ ⟨#[32, 38]⟩ cs m1 (rfl) (by simp [evp_same, evp_ne, szp, hsz, e3]) h_m1 (by have : (⟨#[32, 38]⟩ : ByteArray).size = 2 := rfl; omega) V) trivial ?_
      refine gate_take0 (i := 7) (v := .string cs) rfl (by rfl) (by kernel_rfl) (by kernel_rfl) (by kernel_rfl) (fun _ _ _ h => h) rfl (fun V => move_exec _ (.tmp 3) rfl _ _ (by simp [evp_same, evp_ne, szp, hsz, e3]) V) trivial ?_
      refine gate_take0 (i := 8) (v := .string sa) rfl (by rfl) (by kernel_rfl) (by kernel_rfl) (by kernel_rfl) (fun _ _ _ h => h) rfl (fun V => add_exec _ (.const (.string ⟨#[38]⟩)) (.tmp 66) _ rfl _ ⟨#[38]⟩ cs sa (rfl) (by simp [evp_same, evp_ne, szp, hsz, e3]) h_sa (by have : (⟨#[38]⟩ : ByteArray).size = 1 := rfl; omega) V) trivial ?_
      refine gate_take0 (i := 11) (v := .string cs) rfl (by rfl) (by kernel_rfl) (by kernel_rfl) (by kernel_rfl) (fun _ _ _ h => h) rfl (fun V => move_exec _ (.tmp 3) rfl _ _ (by simp [evp_same, evp_ne, szp, hsz, e3]) V) trivial ?_
      refine gate_take0 (i := 12) (v := .string m2) rfl (by rfl) (by kernel_rfl) (by kernel_rfl) (by kernel_rfl) (fun _ _ _ h => h) rfl (fun V => add_exec _ (.const (.string ⟨#[33, 32]⟩)) (.tmp 68) _ rfl _ ⟨#[33, 32]⟩ cs m2 (rfl) (by simp [evp_same, evp_ne, szp, hsz, e3]) h_m2 (by have : (⟨#[33, 32]⟩ : ByteArray).size = 2 := rfl; omega) V) trivial ?_
      refine gate_take0 (i := 14) (v := .string cs) rfl (by rfl) (by kernel_rfl) (by kernel_rfl) (by kernel_rfl) (fun _ _ _ h => h) rfl (fun V => move_exec _ (.tmp 3) rfl _ _ (by simp [evp_same, evp_ne, szp, hsz, e3]) V) trivial ?_
      refine gate_take0 (i := 15) (v := .string ma) rfl (by rfl) (by kernel_rfl) (by kernel_rfl) (by kernel_rfl) (fun _ _ _ h => h) rfl (fun V => add_exec _ (.const (.string ⟨#[33, 33]⟩)) (.tmp 70) _ rfl _ ⟨#[33, 33]⟩ cs ma (rfl) (by simp [evp_same, evp_ne, szp, hsz, e3]) h_ma (by have : (⟨#[33, 33]⟩ : ByteArray).size = 2 := rfl; omega) V) trivial ?_
      refine gate_take0 (i := 16) (v := .string mb) rfl (by rfl) (by kernel_rfl) (by kernel_rfl) (by kernel_rfl) (fun _ _ _ h => h) rfl (fun V => add_exec _ (.tmp 71) (.const (.string ⟨#[32, 38]⟩)) _ rfl _ ma ⟨#[32, 38]⟩ mb (by simp [evp_same, evp_ne, szp, hsz, e3]) (rfl) h_mb (by have : (⟨#[32, 38]⟩ : ByteArray).size = 2 := rfl; omega) V) trivial ?_
      refine gate_take0 (i := 17) (v := .string cs) rfl (by rfl) (by kernel_rfl) (by kernel_rfl) (by kernel_rfl) (fun _ _ _ h => h) rfl (fun V => move_exec _ (.tmp 3) rfl _ _ (by simp [evp_same, evp_ne, szp, hsz, e3]) V) trivial ?_
      refine gate_take0 (i := 18) (v := .string mc) rfl (by rfl) (by kernel_rfl) (by kernel_rfl) (by kernel_rfl) (fun _ _ _ h => h) rfl (fun V => add_exec _ (.tmp 72) (.tmp 73) _ rfl _ mb cs mc (by simp [evp_same, evp_ne, szp, hsz, e3]) (by simp [evp_same, evp_ne, szp, hsz, e3]) h_mc (by omega) V) trivial ?_
      refine gate_take0 (i := 19) (v := .string md) rfl (by rfl) (by kernel_rfl) (by kernel_rfl) (by kernel_rfl) (fun _ _ _ h => h) rfl (fun V => add_exec _ (.tmp 74) (.const (.string ⟨#[32, 32]⟩)) _ rfl _ mc ⟨#[32, 32]⟩ md (by simp [evp_same, evp_ne, szp, hsz, e3]) (rfl) h_md (by have : (⟨#[32, 32]⟩ : ByteArray).size = 2 := rfl; omega) V) trivial ?_
      refine gate_take0 (i := 20) (v := .string cs) rfl (by rfl) (by kernel_rfl) (by kernel_rfl) (by kernel_rfl) (fun _ _ _ h => h) rfl (fun V => move_exec _ (.tmp 3) rfl _ _ (by simp [evp_same, evp_ne, szp, hsz, e3]) V) trivial ?_
      refine gate_take0 (i := 21) (v := .string m3) rfl (by rfl) (by kernel_rfl) (by kernel_rfl) (by kernel_rfl) (fun _ _ _ h => h) rfl (fun V => add_exec _ (.tmp 75) (.tmp 76) _ rfl _ md cs m3 (by simp [evp_same, evp_ne, szp, hsz, e3]) (by simp [evp_same, evp_ne, szp, hsz, e3]) h_m3 (by omega) V) trivial ?_
      refine gate_take0 (i := 23) (v := .string cs) rfl (by rfl) (by kernel_rfl) (by kernel_rfl) (by kernel_rfl) (fun _ _ _ h => h) rfl (fun V => move_exec _ (.tmp 3) rfl _ _ (by simp [evp_same, evp_ne, szp, hsz, e3]) V) trivial ?_
      refine gate_take0 (i := 24) (v := .string sa) rfl (by rfl) (by kernel_rfl) (by kernel_rfl) (by kernel_rfl) (fun _ _ _ h => h) rfl (fun V => add_exec _ (.const (.string ⟨#[38]⟩)) (.tmp 78) _ rfl _ ⟨#[38]⟩ cs sa (rfl) (by simp [evp_same, evp_ne, szp, hsz, e3]) h_sa (by have : (⟨#[38]⟩ : ByteArray).size = 1 := rfl; omega) V) trivial ?_
      refine gate_take0 (i := 25) (v := .string m4) rfl (by rfl) (by kernel_rfl) (by kernel_rfl) (by kernel_rfl) (fun _ _ _ h => h) rfl (fun V => add_exec _ (.tmp 79) (.const (.string ⟨#[32, 32, 32]⟩)) _ rfl _ sa ⟨#[32, 32, 32]⟩ m4 (by simp [evp_same, evp_ne, szp, hsz, e3]) (rfl) h_m4 (by have : (⟨#[32, 32, 32]⟩ : ByteArray).size = 3 := rfl; omega) V) trivial ?_
      refine gate_take0 (i := 27) (v := .string cs) rfl (by rfl) (by kernel_rfl) (by kernel_rfl) (by kernel_rfl) (fun _ _ _ h => h) rfl (fun V => move_exec _ (.tmp 3) rfl _ _ (by simp [evp_same, evp_ne, szp, hsz, e3]) V) trivial ?_
      refine gate_take0 (i := 28) (v := .string m5) rfl (by rfl) (by kernel_rfl) (by kernel_rfl) (by kernel_rfl) (fun _ _ _ h => h) rfl (fun V => add_exec _ (.const (.string ⟨#[42]⟩)) (.tmp 81) _ rfl _ ⟨#[42]⟩ cs m5 (rfl) (by simp [evp_same, evp_ne, szp, hsz, e3]) h_m5 (by have : (⟨#[42]⟩ : ByteArray).size = 1 := rfl; omega) V) trivial ?_
      refine gate_one (i := 0) (by kernel_rfl) ?_
      refine wpOp_value (v := .map (some W.drew.heap.size)) (w' := W.drew.alloc (.map #[] 0)) rfl rfl (makeMap_exec _ _ rfl _ _) ⟨fun _ => trivial, ?_⟩
      obtain ⟨B, hB⟩ : ∃ B, W.drew.heap.size = B := ⟨_, rfl⟩
      have hBw : w.heap.size ≤ B := by rw [← hB]; exact HBW.out.size
      have HI : InvM w B T 9 (W.drew.alloc (.map #[] 0)) := ⟨0, .map [], by omega, by rw [← hB]; exact ownSI_new _, allIn_nil _, HBW.out.drew.alloc HBW.out.drew.size _⟩
      rw [hB]
      generalize W.drew.alloc (.map #[] 0) = W1 at *
      refine gate_gen fun a1 hA0 => ?_
      have hA1 : a1 = (((((((((((((((((((((a0.put (some 63) (.string cs)).put (some 64) (.string cs)).put (some 65) (.string m1)).put (some 66) (.string cs)).put (some 67) (.string sa)).put (some 68) (.string cs)).put (some 69) (.string m2)).put (some 70) (.string cs)).put (some 71) (.string ma)).put (some 72) (.string mb)).put (some 73) (.string cs)).put (some 74) (.string mc)).put (some 75) (.string md)).put (some 76) (.string cs)).put (some 77) (.string m3)).put (some 78) (.string cs)).put (some 79) (.string sa)).put (some 80) (.string m4)).put (some 81) (.string cs)).put (some 82) (.string m5)).put (some 62) (.map (some B))) := hA0
      clear hA0
      have hsz1 : a1.tmps.size = 105 := by rw [hA1]; simp [szp, hsz]
      have e62 : a1.eval (.tmp 62) = .map (some B) := by rw [hA1]; simp [evp_same, evp_ne, szp, hsz]
      have e63 : a1.eval (.tmp 63) = .string cs := by rw [hA1]; simp [evp_same, evp_ne, szp, hsz]
      have e65 : a1.eval (.tmp 65) = .string m1 := by rw [hA1]; simp [evp_same, evp_ne, szp, hsz]
      have e67 : a1.eval (.tmp 67) = .string sa := by rw [hA1]; simp [evp_same, evp_ne, szp, hsz]
      have e69 : a1.eval (.tmp 69) = .string m2 := by rw [hA1]; simp [evp_same, evp_ne, szp, hsz]
      have e77 : a1.eval (.tmp 77) = .string m3 := by rw [hA1]; simp [evp_same, evp_ne, szp, hsz]
      have e80 : a1.eval (.tmp 80) = .string m4 := by rw [hA1]; simp [evp_same, evp_ne, szp, hsz]
      have e82 : a1.eval (.tmp 82) = .string m5 := by rw [hA1]; simp [evp_same, evp_ne, szp, hsz]
      change wpGate _ _ _ _ _ _ (9 + 2) _ _ _
      refine gate_any (a := a1) (I := [1, 3, 6, 9, 10, 13, 22, 26, 29]) (Lf := #[true, true, true, true, true, true, true, true, true, true, true, true, true, true, true, true, true, true, true, true, true, true, true, true, true, true, true, true, true, true, false, false]) (r := 2) (by kernel_rfl) (InvM w B T) ?_ ?_ 9 [1, 3, 6, 9, 10, 13, 22, 26, 29] _ W1 (by decide) (fun i hi => hi) rfl (by kernel_rfl) (rel_of (by kernel_rfl)) HI
      · intro i hi k V hV
        simp only [List.mem_cons, List.not_mem_nil, or_false] at hi
        rcases hi with rfl | rfl | rfl | rfl | rfl | rfl | rfl | rfl | rfl
        · obtain ⟨V', hr, hI⟩ := inv_put hBw hV ⟨#[]⟩ (by decide) 0 (by decide) HT0.out
          exact wpOp_skip rfl rfl (insert_exec _ (.tmp 62) (.const (.string ⟨#[]⟩)) (.const (.int .i64 0)) _ rfl a1 _ _ _ e62 rfl rfl V V' hr) ⟨rfl, hI⟩
        · obtain ⟨V', hr, hI⟩ := inv_put hBw hV cs (by omega) 0 (by decide) HT1.out
          exact wpOp_skip rfl rfl (insert_exec _ (.tmp 62) (.tmp 63) (.const (.int .i64 0)) _ rfl a1 _ _ _ e62 e63 rfl V V' hr) ⟨rfl, hI⟩
        · obtain ⟨V', hr, hI⟩ := inv_put hBw hV m1 (by omega) 0 (by decide) HT2.out
          exact wpOp_skip rfl rfl (insert_exec _ (.tmp 62) (.tmp 65) (.const (.int .i64 0)) _ rfl a1 _ _ _ e62 e65 rfl V V' hr) ⟨rfl, hI⟩
        · obtain ⟨V', hr, hI⟩ := inv_put hBw hV sa (by omega) 2 (by decide) HT3.out
          exact wpOp_skip rfl rfl (insert_exec _ (.tmp 62) (.tmp 67) (.const (.int .i64 2)) _ rfl a1 _ _ _ e62 e67 rfl V V' hr) ⟨rfl, hI⟩
        · obtain ⟨V', hr, hI⟩ := inv_put hBw hV ⟨#[33]⟩ (by decide) 1 (by decide) HT4.out
          exact wpOp_skip rfl rfl (insert_exec _ (.tmp 62) (.const (.string ⟨#[33]⟩)) (.const (.int .i64 1)) _ rfl a1 _ _ _ e62 rfl rfl V V' hr) ⟨rfl, hI⟩
        · obtain ⟨V', hr, hI⟩ := inv_put hBw hV m2 (by omega) 1 (by decide) HT5.out
          exact wpOp_skip rfl rfl (insert_exec _ (.tmp 62) (.tmp 69) (.const (.int .i64 1)) _ rfl a1 _ _ _ e62 e69 rfl V V' hr) ⟨rfl, hI⟩
        · obtain ⟨V', hr, hI⟩ := inv_put hBw hV m3 (by omega) 6 (by decide) HT6.out
          exact wpOp_skip rfl rfl (insert_exec _ (.tmp 62) (.tmp 77) (.const (.int .i64 6)) _ rfl a1 _ _ _ e62 e77 rfl V V' hr) ⟨rfl, hI⟩
        · obtain ⟨V', hr, hI⟩ := inv_put hBw hV m4 (by omega) 2 (by decide) HT7.out
          exact wpOp_skip rfl rfl (insert_exec _ (.tmp 62) (.tmp 80) (.const (.int .i64 2)) _ rfl a1 _ _ _ e62 e80 rfl V V' hr) ⟨rfl, hI⟩
        · obtain ⟨V', hr, hI⟩ := inv_put hBw hV m5 (by omega) 0 (by decide) HT8.out
          exact wpOp_skip rfl rfl (insert_exec _ (.tmp 62) (.tmp 82) (.const (.int .i64 0)) _ rfl a1 _ _ _ e62 e82 rfl V V' hr) ⟨rfl, hI⟩
      · intro V hV
        obtain ⟨n, D, hn, ho, ha, hb⟩ := hV
        obtain ⟨V', hr, hrg, hb'⟩ := run_rangeSI ho
        refine gate_one (i := 30) (by kernel_rfl) ?_
        refine wpOp_value (v := .map (some B)) (w' := V) rfl rfl (move_exec _ (.tmp 62) rfl _ _ e62 V) ⟨fun _ => trivial, ?_⟩
        refine gate_one (i := 31) (by kernel_rfl) ?_
        refine wpOp_value (v := .pointer (some ⟨V.heap.size, 0, none⟩)) (w' := V') rfl rfl (range_exec _ (.tmp 83) _ rfl _ (.map (some B)) _ (by simp [evp_same, evp_ne, szp, hsz1]) V V' hr) ⟨fun _ => trivial, ?_⟩
        refine gate_gen fun a2 hA0 => ?_
        have hA2 : a2 = ((a1.put (some 83) (.map (some B))).put (some 84) (.pointer (some ⟨V.heap.size, 0, none⟩))) := hA0
        clear hA0
        refine gate_done (by kernel_rfl) ?_ _
        obtain ⟨g, hg⟩ : ∃ g, V.heap.size = g := ⟨_, rfl⟩
        have hgw : w.heap.size ≤ g := by rw [← hg]; exact hb.size
        rw [hg] at hrg hA2
        have HRG := Lib.hid hrg
        have HB0 := Lib.hid (below_step hb hb')
        have HAL := Lib.hid ha
        clear hr hrg hb hb' ho ha hg
        subst hA2 hA1 hA
        clear e3 hsz hsz1 e62 e63 e65 e67 e69 e77 e80 e82 HI
        clear h_s1 h_sa h_s2 h_s3 h_s4 h_sb h_s5 h_sc h_s6 h_s7 h_m1 h_m2 h_ma h_mb h_mc h_md h_m3 h_m4 h_m5
        go_wp2_with fail
        simp only [Act.put, List.setIfInBounds_toArray, List.set_cons_zero, List.set_cons_succ]
        go_loopw [2] (fun r W => r = .bool false ∧ ∃ cnt : Nat, Hid (RngSI W B g n D cnt ∧ Below w.heap.size w W)) (fun _ W => W.rangeLeft B g)
        case atStart => exact ⟨rfl, _, HRG.out, HB0.out⟩
        case round =>
          obtain ⟨rfl, cnt, HK⟩ := hrel
          obtain ⟨W, hW⟩ : ∃ x, x = wr := ⟨_, rfl⟩
          subst hW
          have HRK := Lib.hid HK.out.1
          have HBK := Lib.hid HK.out.2
          clear HK
          go_wp2_with (at_next; refine next_forms rfl (.tmp 84) rfl B g n D cnt T rfl HRK HAL HTF ?_ (fun x c W3 cap W4 HF hcap hcapm hxs hrun hen => ?_))
          · refine (wakes_at HBK.out).mono ?_
            rintro e W5 ⟨rfl, hb5⟩
            have HB5 := Lib.hid hb5
            clear hb5
            go_wp2_with fail
            go_ret
            exact ⟨rfl, HB5.out⟩
          · obtain ⟨hc, hok, ⟨cnt', hrg', hlt'⟩, hgr, hB4⟩ := HF.out
            have HC := Lib.hid hc
            have HOK := Lib.hid hok
            have HB3 : Hid (Below w.heap.size w W3) := HBK.out.grown hgr HBK.out.size (fun b hb => by injection hb with hb; omega)
            have HRG3 := Lib.hid hrg'
            have HLT := Lib.hid (And.intro hlt' HRK.out.left)
            have HB4 := Lib.hid hB4
            clear hc hok hrg' hlt' hgr hB4 HF hrun hen
            refine (take_txt HB4.out (Below.refl _ _) (by omega) (byt x) rfl).mono ?_
            rintro e W5 ⟨t', a', ht', ha', rfl, hb5⟩
            rw [HC.out, HOK.out]
            have HB5 := Lib.hid (hb5.alloc hb5.size (.cells #[.string t', .string a'] 25))
            clear ht' ha' hb5
            go_wp2_with fail
            go_roundw
            case rel =>
              repeat apply Exists.intro
              exact ⟨⟨rfl, cnt', HRG3.out.below HB5.out, below_step HB3.out HB5.out⟩, rfl⟩
            case measure => rw [(HRG3.out.below HB5.out).left, HLT.out.2]; exact HLT.out.1

/-! ### THE ROW's STEP: WRITTEN OUT: LEAVE IT -/
set_option maxRecDepth 100000 in
theorem lifted (os : Os) (started : os.Started) (H : Type) (enc : TypeId × Value → H) :
    ReturnsInHanded {} Try.checked os 3 .any (Rows.propsFormsSpec.pre6 enc Try.prog Try.f3 Rows.propsFormsRow.domain false) (Rows.propsFormsSpec.post enc Try.prog Try.f3 false true false false) := by
  refine returnsInHanded_of_change (C := Try.checked) own started (by kernel_rfl) Try.func3
    (ChangeSpec.witness6 (enc := enc) (C := Try.checked) false ⟨#[], #[.int .i64 0], []⟩ 8 (by kernel_rfl) (by kernel_rfl) (by kernel_rfl) (by kernel_rfl)) ?_
  intro W base args ds gs before hval0 hW hcnd _
  have hval : ∀ (j : Nat) t v, Try.f3.params[j]? = some t → args[j]? = some v → Value.okWide Try.prog W .any base t v := hval0
  have hW' := hW
  obtain ⟨p, q, hA0, hV, rfl, hfz, hnd⟩ := hW
  have hA : DataW.TrodAll enc Try.prog W 0 (fun _ => true) true Try.f3.params.toList args.toList ds p := hA0
  rw [Try.params3] at hA hval
  obtain ⟨v0, vs0, d0, ds0, p0, q0, hargs, rfl, rfl, h0, r0⟩ := trodAll_cons hA
  obtain ⟨rfl, rfl, rfl⟩ := trodAll_nil r0
  obtain rfl : args = #[v0] := by cases args; simp_all
  obtain ⟨rfl, rfl⟩ := trodVars_none hV
  obtain ⟨a0, rfl, rfl, rfl, w0⟩ := open_int Try.underlying3 (hval 0 3 v0 rfl rfl) h0
  clear hA0 hval0
  refine (walk a0 w0 W).mono fun e W' ⟨he, hg⟩ => ?_
  subst he
  exact ⟨_, rfl, _, _, _, [], [], [], hW', trodAll_mk1 (shut_bool Try.underlying4 _), (trodAll_cons_mk (shut_int Try.underlying3 w0) trodAll_mk0), rfl, hg.frame _, fun h => by cases h⟩

theorem over : Rows.propsFormsRow.holds Try.pinned (OpenSpec.ofChange Rows.propsFormsSpec) :=
  OpenClaim.holds_of_wide 3 Try.f3 rfl rfl rfl rfl rfl rfl rfl ⟨rfl, rfl, rfl, rfl, rfl⟩ rfl rfl rfl rfl rfl (by kernel_rfl) Try.func3 (by kernel_rfl)
    (of_decide_eq_true (by kernel_rfl)) (by unfold Func.isWrapper; first | (rw [if_pos (by decide +kernel)]; kernel_rfl) | (rw [if_neg (by decide +kernel)]; exact ⟨rfl, rfl⟩))
    (fun os started H enc _ => lifted os started H enc)

/-- ████ THE STATEMENT ████ -/
theorem proved : Rows.PropsFormsSaid :=
  over
#print axioms proved
end Go.Proofs.Ytpmikhhnnjhiaaa.propsForms
