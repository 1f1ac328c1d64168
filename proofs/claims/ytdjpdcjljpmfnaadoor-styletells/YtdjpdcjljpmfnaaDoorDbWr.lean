/- double.written. -/
import Derived.Test.YtdjpdcjljpmfnaaDoorDbEsc
import Derived.Test.YtdjpdcjljpmfnaaDoorDbHex
namespace Go.Proofs.YtdjpdcjljpmfnaaDoor
open Go.RowKit
set_option linter.unusedVariables false
set_option maxRecDepth 100000

theorem u8_int (n : Nat) (h : n < 256) : ((UInt8.ofNat n).toNat : Int) = n := by
  rw [UInt8.toNat_ofNat']; omega
/-- What the conversion of a rune to a text makes. -/
theorem enc_byt (r : Int) (hok : okR r = true) : byt (Utf8.encode r) = utfF r := by
  obtain ⟨h0, h1, hs⟩ := okR_parts hok
  obtain ⟨n, rfl⟩ : ∃ n : Nat, r = n := ⟨r.toNat, by omega⟩
  have hv : Utf8.valid (n : Int) = true := by unfold Utf8.valid; unfold surr at hs; simp at hs ⊢; omega
  unfold Utf8.encode utfF
  rw [hv]
  simp only [if_true, Int.toNat_natCast]
  by_cases g1 : n < 128
  · rw [if_pos g1, if_pos (show (n : Int) < 128 by omega)]
    simp only [byt, List.map_cons, List.map_nil]; rw [u8_int n (by omega)]
  rw [if_neg g1, if_neg (show ¬ (n : Int) < 128 by omega)]
  by_cases g2 : n < 2048
  · rw [if_pos g2, if_pos (show (n : Int) < 2048 by omega)]
    simp only [byt, List.map_cons, List.map_nil]
    rw [u8_int _ (by omega), u8_int _ (by omega)]
    simp
  rw [if_neg g2, if_neg (show ¬ (n : Int) < 2048 by omega)]
  by_cases g3 : n < 65536
  · rw [if_pos g3, if_pos (show (n : Int) < 65536 by omega)]
    simp only [byt, List.map_cons, List.map_nil]
    rw [u8_int _ (by omega), u8_int _ (by omega), u8_int _ (by omega)]
    simp
  · rw [if_neg g3, if_neg (show ¬ (n : Int) < 65536 by omega)]
    simp only [byt, List.map_cons, List.map_nil]
    rw [u8_int _ (by omega), u8_int _ (by omega), u8_int _ (by omega), u8_int _ (by omega)]
    simp
def WrP (r : Int) (w : World) (e : Ending) (w' : World) : Prop := ∃ s : ByteArray, byt s = wrF r ∧ e = .returned (.string s) ∧ Below w.heap.size w w'

set_option maxHeartbeats 2000000 in
theorem written_any (r : Int) (w : World) (hok : okR r = true) (hS : Shorts w) :
    Calls Tryd.prog 24 #[.int .i32 r] w (WrP r w) := by
  obtain ⟨h0, h1, _⟩ := okR_parts hok
  have HOK := Lib.hid hok
  obtain ⟨T, fr, hh⟩ := hS
  have HH := Lib.hid hh
  have HI : Hid ((Tryd.prog.info? 55).map (·.size) = some shC.size) := by show _ = _; kernel_rfl
  have HO : Hid (((shL.drop 0).find? (fun x => x.2 == r)).map (·.1) = letR r) := rfl
  have B0 : Hid (Below w.heap.size w w) := Below.refl _ _
  have HAT := Lib.hid shorts_at
  clear hh hok
  generalize shC = C at *
  go_enter Tryd.func24, Tryd.ntmps24
  go_wp2_with (refine wpList_load_row rfl 55 (.global 0) rfl 0 rfl T C fr _ HH.out Tryd.underlying55 rfl HI.out ?_)
  clear HI
  go_loopw [2, 6] (fun r1 i W => ∃ k : Nat, k ≤ 15 ∧ i = .int .i64 (k : Int) ∧ r1 = .string ⟨#[]⟩ ∧ Hid (((shL.drop k).find? (fun x => x.2 == r)).map (·.1) = letR r ∧ Below w.heap.size w W)) (fun _ i _ => 15 - (intOf i).toNat)
  case atStart => exact ⟨0, by omega, rfl, rfl, HO.out, B0.out⟩
  case round =>
    obtain ⟨k, hk, rfl, rfl, HK⟩ := hrel
    obtain ⟨W, hW⟩ : ∃ x, x = wr := ⟨_, rfl⟩
    subst hW
    by_cases hlt : k < 15
    · have d : (k : Int) < 15 := by omega
      obtain ⟨x, q, hx, hrun⟩ := HAT.out k hlt
      have hst := find_step (fun x => x.2 == r) k (x, q) hx
      have hmem : (x, q) ∈ shL := List.mem_of_getElem? hx
      have HB := Lib.hid HK.out.2
      have HKO := Lib.hid HK.out.1
      clear hx HK HAT
      have ix := hrun W
      clear hrun
      have c0 : (W.alloc (.cells #[.int .u8 x, .int .i32 q] 54)).cell? ⟨W.heap.size, 0, none⟩ = some (.int .u8 x) := by rw [World.cell?_alloc_mark]; rfl
      have c1 : (W.alloc (.cells #[.int .u8 x, .int .i32 q] 54)).cell? ⟨W.heap.size, 1, none⟩ = some (.int .i32 q) := by rw [World.cell?_alloc_mark]; rfl
      have HB2 : Hid (Below w.heap.size w (W.alloc (.cells #[.int .u8 x, .int .i32 q] 54))) := HB.out.alloc HB.out.size _
      by_cases hxc : q = r
      · have hv : letR r = some x := by rw [← HKO.out, hst]; simp [hxc]
        have hxb := shL_ok _ hmem
        have hcv := run_string_rd ((W.alloc (.cells #[.int .u8 x, .int .i32 q] 54)).alloc (.cells #[.int .u8 92, .int .u8 x] 5)) (some ⟨W.heap.size + 1, 0, none⟩) 2 2 [92, x] rfl
          (RdB.new (by simp) (fun k y hy => by
            match k with
            | 0 => simp at hy; subst hy; rfl
            | 1 => simp at hy; subst hy; rfl
            | k + 2 => simp at hy))
        have HX : Hid (byt (strOfNums [92, x]) = wrF r) := by
          show _ = _
          rw [byt_strOfNums]
          · unfold wrF; rw [hv]
          · intro z hz; simp at hz; omega
        generalize strOfNums [92, x] = y at *
        have ex : (q == r) = true := beq_iff_eq.2 hxc
        clear hst HKO hxc hv hxb hmem
        have HB3 : Hid (Below w.heap.size w ((W.alloc (.cells #[.int .u8 x, .int .i32 q] 54)).alloc (.cells #[.int .u8 92, .int .u8 x] 5))) := HB2.out.alloc HB2.out.size _
        go_wp2_with fail
        go_ret
        exact ⟨y, HX.out, rfl, HB3.out⟩
      · have HN : Hid (((shL.drop (k + 1)).find? (fun x => x.2 == r)).map (·.1) = letR r) := by
          show _ = _
          rw [← HKO.out, hst]; simp [hxc]
        have ex : (q == r) = false := beq_eq_false_iff_ne.2 hxc
        clear hst HKO hxc hmem
        go_wp2_with fail
        go_roundw
        case rel => exact ⟨k + 1, by omega, by go_num, rfl, HN.out, HB2.out⟩
        case measure => simp [intOf]; omega
    · obtain rfl : k = 15 := by omega
      have hv : letR r = none := by rw [← HK.out.1]; rfl
      have HW : Hid (wrF r = if prt r = true then utfF r else if r ≤ 255 then 92 :: 120 :: hexF r 2 else if r ≤ 65535 then 92 :: 117 :: hexF r 4 else 92 :: 85 :: hexF r 8) := by
        show _ = _
        unfold wrF; rw [hv]
      have HB := Lib.hid HK.out.2
      clear HK HAT hv
      cases hp : prt r
      · by_cases g1 : r ≤ 255
        · have HR : Hid (wrF r = 92 :: 120 :: hexF r 2) := by show _ = _; rw [HW.out, hp, if_neg (by simp), if_pos g1]
          have HP := Lib.hid hp
          clear HW hp
          go_wp2_with (go_at_call 45; refine (prt_any _ _).mono ?_; rintro e w' ⟨rfl, rfl⟩; rw [HP.out])
          refine (hex_any r 2 W h0 (by omega) (by omega)).mono ?_
          rintro e W2 ⟨s, hs, rfl, hb2⟩
          have HX : Hid (byt ((⟨#[92, 120]⟩ : ByteArray) ++ s) = wrF r) := by show _ = _; rw [byt_append, hs, HR.out]; rfl
          have HB2 := Lib.hid (below_step HB.out hb2)
          have hss : s.size = 2 := by
            have := byt_len s
            rw [hs, show hexS r 2 = hexF r 2 from rfl, hexF_len] at this; exact this.symm
          clear hs hb2
          obtain ⟨y, hy⟩ : ∃ y, (⟨#[92, 120]⟩ : ByteArray) ++ s = y := ⟨_, rfl⟩
          rw [hy] at HX
          go_wp2_with fail
          go_ret
          exact ⟨y, HX.out, rfl, HB2.out⟩
        have d1 : decide (r ≤ 255) = false := decide_eq_false (by omega)
        by_cases g2 : r ≤ 65535
        · have HR : Hid (wrF r = 92 :: 117 :: hexF r 4) := by show _ = _; rw [HW.out, hp, if_neg (by simp), if_neg g1, if_pos g2]
          have HP := Lib.hid hp
          clear HW hp
          go_wp2_with (go_at_call 45; refine (prt_any _ _).mono ?_; rintro e w' ⟨rfl, rfl⟩; rw [HP.out])
          refine (hex_any r 4 W h0 (by omega) (by omega)).mono ?_
          rintro e W2 ⟨s, hs, rfl, hb2⟩
          have HX : Hid (byt ((⟨#[92, 117]⟩ : ByteArray) ++ s) = wrF r) := by show _ = _; rw [byt_append, hs, HR.out]; rfl
          have HB2 := Lib.hid (below_step HB.out hb2)
          have hss : s.size = 4 := by
            have := byt_len s
            rw [hs, show hexS r 4 = hexF r 4 from rfl, hexF_len] at this; exact this.symm
          clear hs hb2
          obtain ⟨y, hy⟩ : ∃ y, (⟨#[92, 117]⟩ : ByteArray) ++ s = y := ⟨_, rfl⟩
          rw [hy] at HX
          go_wp2_with fail
          go_ret
          exact ⟨y, HX.out, rfl, HB2.out⟩
        · have HR : Hid (wrF r = 92 :: 85 :: hexF r 8) := by show _ = _; rw [HW.out, hp, if_neg (by simp), if_neg g1, if_neg g2]
          have d2 : decide (r ≤ 65535) = false := decide_eq_false (by omega)
          have HP := Lib.hid hp
          clear HW hp
          go_wp2_with (go_at_call 45; refine (prt_any _ _).mono ?_; rintro e w' ⟨rfl, rfl⟩; rw [HP.out])
          refine (hex_any r 8 W h0 (by omega) (by omega)).mono ?_
          rintro e W2 ⟨s, hs, rfl, hb2⟩
          have HX : Hid (byt ((⟨#[92, 85]⟩ : ByteArray) ++ s) = wrF r) := by show _ = _; rw [byt_append, hs, HR.out]; rfl
          have HB2 := Lib.hid (below_step HB.out hb2)
          have hss : s.size = 8 := by
            have := byt_len s
            rw [hs, show hexS r 8 = hexF r 8 from rfl, hexF_len] at this; exact this.symm
          clear hs hb2
          obtain ⟨y, hy⟩ : ∃ y, (⟨#[92, 85]⟩ : ByteArray) ++ s = y := ⟨_, rfl⟩
          rw [hy] at HX
          go_wp2_with fail
          go_ret
          exact ⟨y, HX.out, rfl, HB2.out⟩
      · have HR : Hid (byt (Utf8.encode r) = wrF r) := by show _ = _; rw [HW.out, hp, if_pos rfl, enc_byt r HOK.out]
        have HP := Lib.hid hp
        clear HW hp
        go_wp2_with (go_at_call 45; refine (prt_any _ _).mono ?_; rintro e w' ⟨rfl, rfl⟩; rw [HP.out])
        go_ret
        exact ⟨_, HR.out, rfl, HB.out⟩
end Go.Proofs.YtdjpdcjljpmfnaaDoor
