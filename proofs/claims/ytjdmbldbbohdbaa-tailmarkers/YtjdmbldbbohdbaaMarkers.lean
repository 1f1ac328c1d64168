/-
  Proved: the law 'scholium/scholiumlaw11.TailMarkers' returns true for every input, and every argument reads as it did before. No conditions.
-/
import Derived.Test.YtjdmbldbbohdbaaRows
import Derived.Test.YtjdmbldbbohdbaaTlLaw
import Derived.Test.YtjdmbldbbohdbaaKeep
import Derived.WalkKit
import Derived.ProofKit
import Derived.OpenShut
import Derived.ShutString
namespace Go.Proofs.Ytjdmbldbbohdbaa.tailMarkers
open Go.ChangeShapes Go.WideShapes Go.ChangeAt Go.RowKit
open Go.ChangeMaps (open_string shut_string)
set_option linter.unusedVariables false      -- a walk need not use every 'w<i>' (that an integer argument fits its kind)

theorem own : ownKnob Try.prog.godebug = none := by kernel_rfl

theorem six_at (n : Nat) (hn : n < 6) : byt ((⟨#[32, 32, 32, 32, 32, 32]⟩ : ByteArray).extract 0 n) = List.replicate n 32 := by
  have h : ∀ j : Fin 6, byt ((⟨#[32, 32, 32, 32, 32, 32]⟩ : ByteArray).extract 0 j.val) = List.replicate j.val 32 := by decide +kernel
  exact h ⟨n, hn⟩
set_option maxHeartbeats 4000000 in
set_option maxRecDepth 100000 in
theorem walk (a0 : Int) (a1 : ByteArray) (a2 : Bool) (w0 : (Lit.int .i64 a0).wf = true) (w1 : a1.size ≤ maxLen) (w : World) :
    Calls Try.prog 3 #[.int .i64 a0, .string a1, .bool a2] w fun e w' => e = .returned (.bool true) ∧ Below w.heap.size w w' := by
  have hb0 := bounds_i64 w0
  go_enter Try.func3, Try.ntmps3
  cases a2 with
  | false =>
    go_wp2_with fail
    refine (within_nat a0 6 w (by omega) (by omega) (by omega)).mono ?_
    rintro e w' ⟨g, hg, rfl, rfl⟩
    obtain ⟨z, hz⟩ : ∃ z, (⟨#[32, 32, 32, 32, 32, 32]⟩ : ByteArray).extract 0 g = z := ⟨_, rfl⟩
    have HZ : Hid (byt z = List.replicate g 32) := by show _ = _; rw [← hz]; exact six_at g hg
    have sz : z.size ≤ 5 := by have := byt_len z; rw [HZ.out, List.length_replicate] at this; omega
    go_wp2_with fail
    refine (text_any a1 12 w (by omega) w1).mono ?_
    rintro e w' ⟨t, _, ht, rfl, rfl⟩
    clear w1
    obtain ⟨capt, Wt, B⟩ := bytes_of t (by omega) w
    have hrunt := B.run
    have hcapt := B.le
    have hcapmt := B.max
    have HRT := Lib.hid B.rd
    have HBT := Lib.hid B.below
    obtain ⟨gt, hgt⟩ : ∃ g, w.heap.size = g := ⟨_, rfl⟩
    rw [hgt] at hrunt HRT
    clear B hgt
    have HLT := Lib.hid (byt_len t)
    obtain ⟨n, hn⟩ : ∃ n, t.size = n := ⟨_, rfl⟩
    rw [hn] at hrunt hcapt ht HLT
    go_wp2_with fail
    go_loopw [10, 22] (fun s i W => ∃ (k : Nat) (v : ByteArray), k ≤ n ∧ v.size ≤ 2 + k ∧ s = .string v ∧ i = .int .i64 (k : Int) ∧ Hid (∃ r, byt v = 35 :: 32 :: r) ∧ Hid (Below w.heap.size w W ∧ Below Wt.heap.size Wt W)) (fun _ i _ => n - (intOf i).toNat)
    case atStart => exact ⟨0, ⟨#[35, 32]⟩, by omega, by decide, rfl, rfl, ⟨[], rfl⟩, HBT.out, Below.refl _ _⟩
    case round =>
      obtain ⟨k, v, hk, hvs, rfl, rfl, HV, HW⟩ := hrel
      obtain ⟨W, hW⟩ : ∃ x, x = wr := ⟨_, rfl⟩
      subst hW
      by_cases hlt : k < n
      · have d0 : (k : Int) < (n : Int) := by omega
        obtain ⟨b, off, e, hc⟩ := (HRT.out.below HW.out.2).addr (by rw [HLT.out]; omega)
        injection e with e
        injection e with e1 e2
        subst e1 e2
        have ck := hc k (by rw [HLT.out]; exact hlt)
        rw [Nat.zero_add] at ck
        have hbz := (byt_byte t).at_ (k := k) (by rw [HLT.out]; exact hlt)
        generalize (byt t).getD k 0 = x at *
        clear hc
        by_cases h10 : x = 10
        · have e10 : (x != 10) = false := by rw [h10]; rfl
          clear h10
          go_wp2_with fail
          go_roundw
          case rel => exact ⟨k + 1, v, by omega, by omega, rfl, by go_num, HV, HW⟩
          case measure => simp [intOf]; omega
        · have e10 : (x != 10) = true := bne_iff_ne.2 h10
          by_cases h13 : x = 13
          · have e13 : (x != 13) = false := by rw [h13]; rfl
            clear h13
            go_wp2_with fail
            go_roundw
            case rel => exact ⟨k + 1, v, by omega, by omega, rfl, by go_num, HV, HW⟩
            case measure => simp [intOf]; omega
          · have e13 : (x != 13) = true := bne_iff_ne.2 h13
            have hrs := run_string_rd (W.alloc (.cells #[.int .u8 x] 5)) (some ⟨W.heap.size, 0, none⟩) 1 1 [x] rfl (RdB.new rfl (cellsB_at (zs := [x])))
            obtain ⟨y, hy⟩ : ∃ y, strOfNums [x] = y := ⟨_, rfl⟩
            have hyb : byt y = [x] := by rw [← hy]; exact byt_strOfNums _ (by intro j hj; simp at hj; subst hj; omega)
            have sy : y.size ≤ 1 := by have := byt_len y; rw [hyb] at this; simp at this; omega
            have HN : Hid (∃ r, byt (v ++ y) = 35 :: 32 :: r) := by
              obtain ⟨r, hr⟩ := HV.out
              exact ⟨r ++ [x], by rw [byt_append, hr, hyb]; rfl⟩
            have HW2 : Hid (Below w.heap.size w (W.alloc (.cells #[.int .u8 x] 5)) ∧ Below Wt.heap.size Wt (W.alloc (.cells #[.int .u8 x] 5))) := ⟨HW.out.1.alloc HW.out.1.size _, HW.out.2.alloc HW.out.2.size _⟩
            have hsz : (v ++ y).size ≤ 2 + (k + 1) := by rw [ByteArray.size_append]; omega
            rw [hy] at hrs
            clear hyb hy
            go_wp2_with fail
            go_roundw
            case rel => exact ⟨k + 1, v ++ y, by omega, hsz, rfl, by go_num, HN, HW2⟩
            case measure => simp [intOf]; omega
      · obtain rfl : n = k := by omega
        have d0 : decide ((n : Int) < (n : Int)) = false := decide_eq_false (by omega)
        have sv : v.size ≤ 14 := by omega
        obtain ⟨r, hr⟩ := HV.out
        have HV := Lib.hid hr
        have HB0 := Lib.hid HW.out.1
        clear hr HW hvs hk hlt hn ht
        have F1 : Hid (mrkF (byt (⟨#[45, 45, 45]⟩ : ByteArray)) = 1) := by
          show _ = _
          rfl
        obtain ⟨u2, hu2⟩ : ∃ u, (⟨#[45, 45, 45]⟩ : ByteArray) ++ z = u := ⟨_, rfl⟩
        have su2 : u2.size ≤ 9 := by rw [← hu2, ByteArray.size_append, show (⟨#[45, 45, 45]⟩ : ByteArray).size = 3 from rfl]; omega
        have F2 : Hid (mrkF (byt u2) = 1) := by
          show _ = _
          rw [← hu2, byt_append, HZ.out]
          exact mrk_begin _ (clr_rep g)
        obtain ⟨p, hp⟩ : ∃ u, (⟨#[45, 45, 45]⟩ : ByteArray) ++ (⟨#[32]⟩ : ByteArray) = u := ⟨_, rfl⟩
        have sp : p.size ≤ 4 := by rw [← hp, ByteArray.size_append, show (⟨#[45, 45, 45]⟩ : ByteArray).size = 3 from rfl, show (⟨#[32]⟩ : ByteArray).size = 1 from rfl]; omega
        obtain ⟨q, hq⟩ : ∃ u, p ++ z = u := ⟨_, rfl⟩
        have sq : q.size ≤ 9 := by rw [← hq, ByteArray.size_append]; omega
        obtain ⟨u3, hu3⟩ : ∃ u, q ++ v = u := ⟨_, rfl⟩
        have su3 : u3.size ≤ 30 := by rw [← hu3, ByteArray.size_append]; omega
        have HQ : Hid (byt q = [45, 45, 45] ++ (32 :: List.replicate g 32)) := by
          show _ = _
          rw [← hq, ← hp, byt_append, byt_append, HZ.out]
          rfl
        have F3 : Hid (mrkF (byt u3) = 1) := by
          show _ = _
          rw [← hu3, byt_append, HQ.out, HV.out, List.append_assoc]
          exact mrk_begin _ (by have := clr_sign (g + 1) (32 :: r); rw [List.replicate_succ] at this; exact this)
        obtain ⟨u4, hu4⟩ : ∃ u, (⟨#[45, 45, 45]⟩ : ByteArray) ++ v = u := ⟨_, rfl⟩
        have su4 : u4.size ≤ 22 := by rw [← hu4, ByteArray.size_append, show (⟨#[45, 45, 45]⟩ : ByteArray).size = 3 from rfl]; omega
        have F4 : Hid (mrkF (byt u4) = 0) := by
          show _ = _
          rw [← hu4, byt_append, HV.out]
          exact (mrk_rest (.inl rfl) (clr_sign 0 (32 :: r))).trans rfl
        obtain ⟨u5, hu5⟩ : ∃ u, q ++ (⟨#[120]⟩ : ByteArray) = u := ⟨_, rfl⟩
        have su5 : u5.size ≤ 10 := by rw [← hu5, ByteArray.size_append, show (⟨#[120]⟩ : ByteArray).size = 1 from rfl]; omega
        have F5 : Hid (mrkF (byt u5) = 3) := by
          show _ = _
          rw [← hu5, byt_append, HQ.out, List.append_assoc]
          exact (mrk_rest (l := (32 :: List.replicate g 32) ++ [120]) (.inl rfl) (by have := clr_other (g + 1) 120 [] (by decide) (by decide); rw [List.replicate_succ] at this; exact this)).trans rfl
        obtain ⟨u6, hu6⟩ : ∃ u, (⟨#[45, 45, 45]⟩ : ByteArray) ++ (⟨#[9]⟩ : ByteArray) = u := ⟨_, rfl⟩
        have su6 : u6.size ≤ 4 := by rw [← hu6, ByteArray.size_append, show (⟨#[45, 45, 45]⟩ : ByteArray).size = 3 from rfl, show (⟨#[9]⟩ : ByteArray).size = 1 from rfl]; omega
        have F6 : Hid (mrkF (byt u6) = 3) := by
          show _ = _
          rw [← hu6, byt_append]
          exact (mrk_rest (l := [9]) (.inl rfl) (clr_other 0 9 [] (by decide) (by decide))).trans rfl
        obtain ⟨u7, hu7⟩ : ∃ u, (⟨#[45, 45, 45]⟩ : ByteArray).extract 0 2 = u := ⟨_, rfl⟩
        have su7 : u7.size ≤ 2 := by rw [← hu7]; decide
        have F7 : Hid (mrkF (byt u7) = 0) := by
          show _ = _
          rw [← hu7]
          decide +kernel
        obtain ⟨h, hh⟩ : ∃ u, (⟨#[45]⟩ : ByteArray) ++ u7 = u := ⟨_, rfl⟩
        have sh : h.size ≤ 3 := by rw [← hh, ByteArray.size_append, show (⟨#[45]⟩ : ByteArray).size = 1 from rfl]; omega
        obtain ⟨u8, hu8⟩ : ∃ u, h ++ (⟨#[120]⟩ : ByteArray) = u := ⟨_, rfl⟩
        have su8 : u8.size ≤ 4 := by rw [← hu8, ByteArray.size_append, show (⟨#[120]⟩ : ByteArray).size = 1 from rfl]; omega
        have F8 : Hid (mrkF (byt u8) = 0) := by
          show _ = _
          rw [← hu8, ← hh, ← hu7]
          decide +kernel
        obtain ⟨cap1, V1, B⟩ := bytes_of (⟨#[45, 45, 45]⟩ : ByteArray) (by decide) W
        have hrun1 := B.run
        have hcap1 := B.le
        have hcapm1 := B.max
        have HC1 := Lib.hid B
        clear B
        go_wp2_with fail
        refine (mark_txt HC1.out HB0.out (byt (⟨#[45, 45, 45]⟩ : ByteArray)) rfl 1 F1.out).mono ?_
        rintro e W1 ⟨rfl, hb⟩
        have HB1 := Lib.hid hb
        clear hb hrun1 hcap1 hcapm1 HC1 F1
        obtain ⟨cap2, V2, B⟩ := bytes_of u2 (by omega) W1
        have hrun2 := B.run
        have hcap2 := B.le
        have hcapm2 := B.max
        have HC2 := Lib.hid B
        clear B
        go_wp2_with fail
        refine (mark_txt HC2.out HB1.out (byt u2) rfl 1 F2.out).mono ?_
        rintro e W2 ⟨rfl, hb⟩
        have HB2 := Lib.hid hb
        clear hb hrun2 hcap2 hcapm2 HC2 F2
        obtain ⟨cap3, V3, B⟩ := bytes_of u3 (by omega) W2
        have hrun3 := B.run
        have hcap3 := B.le
        have hcapm3 := B.max
        have HC3 := Lib.hid B
        clear B
        go_wp2_with fail
        refine (mark_txt HC3.out HB2.out (byt u3) rfl 1 F3.out).mono ?_
        rintro e W3 ⟨rfl, hb⟩
        have HB3 := Lib.hid hb
        clear hb hrun3 hcap3 hcapm3 HC3 F3
        obtain ⟨cap4, V4, B⟩ := bytes_of u4 (by omega) W3
        have hrun4 := B.run
        have hcap4 := B.le
        have hcapm4 := B.max
        have HC4 := Lib.hid B
        clear B
        go_wp2_with fail
        refine (mark_txt HC4.out HB3.out (byt u4) rfl 0 F4.out).mono ?_
        rintro e W4 ⟨rfl, hb⟩
        have HB4 := Lib.hid hb
        clear hb hrun4 hcap4 hcapm4 HC4 F4
        obtain ⟨cap5, V5, B⟩ := bytes_of u5 (by omega) W4
        have hrun5 := B.run
        have hcap5 := B.le
        have hcapm5 := B.max
        have HC5 := Lib.hid B
        clear B
        go_wp2_with fail
        refine (mark_txt HC5.out HB4.out (byt u5) rfl 3 F5.out).mono ?_
        rintro e W5 ⟨rfl, hb⟩
        have HB5 := Lib.hid hb
        clear hb hrun5 hcap5 hcapm5 HC5 F5
        obtain ⟨cap6, V6, B⟩ := bytes_of u6 (by omega) W5
        have hrun6 := B.run
        have hcap6 := B.le
        have hcapm6 := B.max
        have HC6 := Lib.hid B
        clear B
        go_wp2_with fail
        refine (mark_txt HC6.out HB5.out (byt u6) rfl 3 F6.out).mono ?_
        rintro e W6 ⟨rfl, hb⟩
        have HB6 := Lib.hid hb
        clear hb hrun6 hcap6 hcapm6 HC6 F6
        obtain ⟨cap7, V7, B⟩ := bytes_of u7 (by omega) W6
        have hrun7 := B.run
        have hcap7 := B.le
        have hcapm7 := B.max
        have HC7 := Lib.hid B
        clear B
        go_wp2_with fail
        refine (mark_txt HC7.out HB6.out (byt u7) rfl 0 F7.out).mono ?_
        rintro e W7 ⟨rfl, hb⟩
        have HB7 := Lib.hid hb
        clear hb hrun7 hcap7 hcapm7 HC7 F7
        obtain ⟨cap8, V8, B⟩ := bytes_of u8 (by omega) W7
        have hrun8 := B.run
        have hcap8 := B.le
        have hcapm8 := B.max
        have HC8 := Lib.hid B
        clear B
        go_wp2_with fail
        refine (mark_txt HC8.out HB7.out (byt u8) rfl 0 F8.out).mono ?_
        rintro e W8 ⟨rfl, hb⟩
        have HB8 := Lib.hid hb
        clear hb hrun8 hcap8 hcapm8 HC8 F8
        go_wp2_with fail
        refine (wakes_at HB8.out).mono ?_
        rintro e W10 ⟨rfl, hb⟩
        have HB10 := Lib.hid hb
        clear hb
        go_wp2_with fail
        go_ret
        exact ⟨rfl, HB10.out⟩
  | true =>
    go_wp2_with fail
    refine (within_nat a0 6 w (by omega) (by omega) (by omega)).mono ?_
    rintro e w' ⟨g, hg, rfl, rfl⟩
    obtain ⟨z, hz⟩ : ∃ z, (⟨#[32, 32, 32, 32, 32, 32]⟩ : ByteArray).extract 0 g = z := ⟨_, rfl⟩
    have HZ : Hid (byt z = List.replicate g 32) := by show _ = _; rw [← hz]; exact six_at g hg
    have sz : z.size ≤ 5 := by have := byt_len z; rw [HZ.out, List.length_replicate] at this; omega
    go_wp2_with fail
    refine (text_any a1 12 w (by omega) w1).mono ?_
    rintro e w' ⟨t, _, ht, rfl, rfl⟩
    clear w1
    obtain ⟨capt, Wt, B⟩ := bytes_of t (by omega) w
    have hrunt := B.run
    have hcapt := B.le
    have hcapmt := B.max
    have HRT := Lib.hid B.rd
    have HBT := Lib.hid B.below
    obtain ⟨gt, hgt⟩ : ∃ g, w.heap.size = g := ⟨_, rfl⟩
    rw [hgt] at hrunt HRT
    clear B hgt
    have HLT := Lib.hid (byt_len t)
    obtain ⟨n, hn⟩ : ∃ n, t.size = n := ⟨_, rfl⟩
    rw [hn] at hrunt hcapt ht HLT
    go_wp2_with fail
    go_loopw [10, 22] (fun s i W => ∃ (k : Nat) (v : ByteArray), k ≤ n ∧ v.size ≤ 2 + k ∧ s = .string v ∧ i = .int .i64 (k : Int) ∧ Hid (∃ r, byt v = 35 :: 32 :: r) ∧ Hid (Below w.heap.size w W ∧ Below Wt.heap.size Wt W)) (fun _ i _ => n - (intOf i).toNat)
    case atStart => exact ⟨0, ⟨#[35, 32]⟩, by omega, by decide, rfl, rfl, ⟨[], rfl⟩, HBT.out, Below.refl _ _⟩
    case round =>
      obtain ⟨k, v, hk, hvs, rfl, rfl, HV, HW⟩ := hrel
      obtain ⟨W, hW⟩ : ∃ x, x = wr := ⟨_, rfl⟩
      subst hW
      by_cases hlt : k < n
      · have d0 : (k : Int) < (n : Int) := by omega
        obtain ⟨b, off, e, hc⟩ := (HRT.out.below HW.out.2).addr (by rw [HLT.out]; omega)
        injection e with e
        injection e with e1 e2
        subst e1 e2
        have ck := hc k (by rw [HLT.out]; exact hlt)
        rw [Nat.zero_add] at ck
        have hbz := (byt_byte t).at_ (k := k) (by rw [HLT.out]; exact hlt)
        generalize (byt t).getD k 0 = x at *
        clear hc
        by_cases h10 : x = 10
        · have e10 : (x != 10) = false := by rw [h10]; rfl
          clear h10
          go_wp2_with fail
          go_roundw
          case rel => exact ⟨k + 1, v, by omega, by omega, rfl, by go_num, HV, HW⟩
          case measure => simp [intOf]; omega
        · have e10 : (x != 10) = true := bne_iff_ne.2 h10
          by_cases h13 : x = 13
          · have e13 : (x != 13) = false := by rw [h13]; rfl
            clear h13
            go_wp2_with fail
            go_roundw
            case rel => exact ⟨k + 1, v, by omega, by omega, rfl, by go_num, HV, HW⟩
            case measure => simp [intOf]; omega
          · have e13 : (x != 13) = true := bne_iff_ne.2 h13
            have hrs := run_string_rd (W.alloc (.cells #[.int .u8 x] 5)) (some ⟨W.heap.size, 0, none⟩) 1 1 [x] rfl (RdB.new rfl (cellsB_at (zs := [x])))
            obtain ⟨y, hy⟩ : ∃ y, strOfNums [x] = y := ⟨_, rfl⟩
            have hyb : byt y = [x] := by rw [← hy]; exact byt_strOfNums _ (by intro j hj; simp at hj; subst hj; omega)
            have sy : y.size ≤ 1 := by have := byt_len y; rw [hyb] at this; simp at this; omega
            have HN : Hid (∃ r, byt (v ++ y) = 35 :: 32 :: r) := by
              obtain ⟨r, hr⟩ := HV.out
              exact ⟨r ++ [x], by rw [byt_append, hr, hyb]; rfl⟩
            have HW2 : Hid (Below w.heap.size w (W.alloc (.cells #[.int .u8 x] 5)) ∧ Below Wt.heap.size Wt (W.alloc (.cells #[.int .u8 x] 5))) := ⟨HW.out.1.alloc HW.out.1.size _, HW.out.2.alloc HW.out.2.size _⟩
            have hsz : (v ++ y).size ≤ 2 + (k + 1) := by rw [ByteArray.size_append]; omega
            rw [hy] at hrs
            clear hyb hy
            go_wp2_with fail
            go_roundw
            case rel => exact ⟨k + 1, v ++ y, by omega, hsz, rfl, by go_num, HN, HW2⟩
            case measure => simp [intOf]; omega
      · obtain rfl : n = k := by omega
        have d0 : decide ((n : Int) < (n : Int)) = false := decide_eq_false (by omega)
        have sv : v.size ≤ 14 := by omega
        obtain ⟨r, hr⟩ := HV.out
        have HV := Lib.hid hr
        have HB0 := Lib.hid HW.out.1
        clear hr HW hvs hk hlt hn ht
        have F1 : Hid (mrkF (byt (⟨#[46, 46, 46]⟩ : ByteArray)) = 2) := by
          show _ = _
          rfl
        obtain ⟨u2, hu2⟩ : ∃ u, (⟨#[46, 46, 46]⟩ : ByteArray) ++ z = u := ⟨_, rfl⟩
        have su2 : u2.size ≤ 9 := by rw [← hu2, ByteArray.size_append, show (⟨#[46, 46, 46]⟩ : ByteArray).size = 3 from rfl]; omega
        have F2 : Hid (mrkF (byt u2) = 2) := by
          show _ = _
          rw [← hu2, byt_append, HZ.out]
          exact mrk_end _ (clr_rep g)
        obtain ⟨p, hp⟩ : ∃ u, (⟨#[46, 46, 46]⟩ : ByteArray) ++ (⟨#[32]⟩ : ByteArray) = u := ⟨_, rfl⟩
        have sp : p.size ≤ 4 := by rw [← hp, ByteArray.size_append, show (⟨#[46, 46, 46]⟩ : ByteArray).size = 3 from rfl, show (⟨#[32]⟩ : ByteArray).size = 1 from rfl]; omega
        obtain ⟨q, hq⟩ : ∃ u, p ++ z = u := ⟨_, rfl⟩
        have sq : q.size ≤ 9 := by rw [← hq, ByteArray.size_append]; omega
        obtain ⟨u3, hu3⟩ : ∃ u, q ++ v = u := ⟨_, rfl⟩
        have su3 : u3.size ≤ 30 := by rw [← hu3, ByteArray.size_append]; omega
        have HQ : Hid (byt q = [46, 46, 46] ++ (32 :: List.replicate g 32)) := by
          show _ = _
          rw [← hq, ← hp, byt_append, byt_append, HZ.out]
          rfl
        have F3 : Hid (mrkF (byt u3) = 2) := by
          show _ = _
          rw [← hu3, byt_append, HQ.out, HV.out, List.append_assoc]
          exact mrk_end _ (by have := clr_sign (g + 1) (32 :: r); rw [List.replicate_succ] at this; exact this)
        obtain ⟨u4, hu4⟩ : ∃ u, (⟨#[46, 46, 46]⟩ : ByteArray) ++ v = u := ⟨_, rfl⟩
        have su4 : u4.size ≤ 22 := by rw [← hu4, ByteArray.size_append, show (⟨#[46, 46, 46]⟩ : ByteArray).size = 3 from rfl]; omega
        have F4 : Hid (mrkF (byt u4) = 0) := by
          show _ = _
          rw [← hu4, byt_append, HV.out]
          exact (mrk_rest (.inr rfl) (clr_sign 0 (32 :: r))).trans rfl
        obtain ⟨u5, hu5⟩ : ∃ u, q ++ (⟨#[120]⟩ : ByteArray) = u := ⟨_, rfl⟩
        have su5 : u5.size ≤ 10 := by rw [← hu5, ByteArray.size_append, show (⟨#[120]⟩ : ByteArray).size = 1 from rfl]; omega
        have F5 : Hid (mrkF (byt u5) = 3) := by
          show _ = _
          rw [← hu5, byt_append, HQ.out, List.append_assoc]
          exact (mrk_rest (l := (32 :: List.replicate g 32) ++ [120]) (.inr rfl) (by have := clr_other (g + 1) 120 [] (by decide) (by decide); rw [List.replicate_succ] at this; exact this)).trans rfl
        obtain ⟨u6, hu6⟩ : ∃ u, (⟨#[46, 46, 46]⟩ : ByteArray) ++ (⟨#[9]⟩ : ByteArray) = u := ⟨_, rfl⟩
        have su6 : u6.size ≤ 4 := by rw [← hu6, ByteArray.size_append, show (⟨#[46, 46, 46]⟩ : ByteArray).size = 3 from rfl, show (⟨#[9]⟩ : ByteArray).size = 1 from rfl]; omega
        have F6 : Hid (mrkF (byt u6) = 3) := by
          show _ = _
          rw [← hu6, byt_append]
          exact (mrk_rest (l := [9]) (.inr rfl) (clr_other 0 9 [] (by decide) (by decide))).trans rfl
        obtain ⟨u7, hu7⟩ : ∃ u, (⟨#[46, 46, 46]⟩ : ByteArray).extract 0 2 = u := ⟨_, rfl⟩
        have su7 : u7.size ≤ 2 := by rw [← hu7]; decide
        have F7 : Hid (mrkF (byt u7) = 0) := by
          show _ = _
          rw [← hu7]
          decide +kernel
        obtain ⟨h, hh⟩ : ∃ u, (⟨#[45]⟩ : ByteArray) ++ u7 = u := ⟨_, rfl⟩
        have sh : h.size ≤ 3 := by rw [← hh, ByteArray.size_append, show (⟨#[45]⟩ : ByteArray).size = 1 from rfl]; omega
        obtain ⟨u8, hu8⟩ : ∃ u, h ++ (⟨#[120]⟩ : ByteArray) = u := ⟨_, rfl⟩
        have su8 : u8.size ≤ 4 := by rw [← hu8, ByteArray.size_append, show (⟨#[120]⟩ : ByteArray).size = 1 from rfl]; omega
        have F8 : Hid (mrkF (byt u8) = 0) := by
          show _ = _
          rw [← hu8, ← hh, ← hu7]
          decide +kernel
        obtain ⟨cap1, V1, B⟩ := bytes_of (⟨#[46, 46, 46]⟩ : ByteArray) (by decide) W
        have hrun1 := B.run
        have hcap1 := B.le
        have hcapm1 := B.max
        have HC1 := Lib.hid B
        clear B
        go_wp2_with fail
        refine (mark_txt HC1.out HB0.out (byt (⟨#[46, 46, 46]⟩ : ByteArray)) rfl 2 F1.out).mono ?_
        rintro e W1 ⟨rfl, hb⟩
        have HB1 := Lib.hid hb
        clear hb hrun1 hcap1 hcapm1 HC1 F1
        obtain ⟨cap2, V2, B⟩ := bytes_of u2 (by omega) W1
        have hrun2 := B.run
        have hcap2 := B.le
        have hcapm2 := B.max
        have HC2 := Lib.hid B
        clear B
        go_wp2_with fail
        refine (mark_txt HC2.out HB1.out (byt u2) rfl 2 F2.out).mono ?_
        rintro e W2 ⟨rfl, hb⟩
        have HB2 := Lib.hid hb
        clear hb hrun2 hcap2 hcapm2 HC2 F2
        obtain ⟨cap3, V3, B⟩ := bytes_of u3 (by omega) W2
        have hrun3 := B.run
        have hcap3 := B.le
        have hcapm3 := B.max
        have HC3 := Lib.hid B
        clear B
        go_wp2_with fail
        refine (mark_txt HC3.out HB2.out (byt u3) rfl 2 F3.out).mono ?_
        rintro e W3 ⟨rfl, hb⟩
        have HB3 := Lib.hid hb
        clear hb hrun3 hcap3 hcapm3 HC3 F3
        obtain ⟨cap4, V4, B⟩ := bytes_of u4 (by omega) W3
        have hrun4 := B.run
        have hcap4 := B.le
        have hcapm4 := B.max
        have HC4 := Lib.hid B
        clear B
        go_wp2_with fail
        refine (mark_txt HC4.out HB3.out (byt u4) rfl 0 F4.out).mono ?_
        rintro e W4 ⟨rfl, hb⟩
        have HB4 := Lib.hid hb
        clear hb hrun4 hcap4 hcapm4 HC4 F4
        obtain ⟨cap5, V5, B⟩ := bytes_of u5 (by omega) W4
        have hrun5 := B.run
        have hcap5 := B.le
        have hcapm5 := B.max
        have HC5 := Lib.hid B
        clear B
        go_wp2_with fail
        refine (mark_txt HC5.out HB4.out (byt u5) rfl 3 F5.out).mono ?_
        rintro e W5 ⟨rfl, hb⟩
        have HB5 := Lib.hid hb
        clear hb hrun5 hcap5 hcapm5 HC5 F5
        obtain ⟨cap6, V6, B⟩ := bytes_of u6 (by omega) W5
        have hrun6 := B.run
        have hcap6 := B.le
        have hcapm6 := B.max
        have HC6 := Lib.hid B
        clear B
        go_wp2_with fail
        refine (mark_txt HC6.out HB5.out (byt u6) rfl 3 F6.out).mono ?_
        rintro e W6 ⟨rfl, hb⟩
        have HB6 := Lib.hid hb
        clear hb hrun6 hcap6 hcapm6 HC6 F6
        obtain ⟨cap7, V7, B⟩ := bytes_of u7 (by omega) W6
        have hrun7 := B.run
        have hcap7 := B.le
        have hcapm7 := B.max
        have HC7 := Lib.hid B
        clear B
        go_wp2_with fail
        refine (mark_txt HC7.out HB6.out (byt u7) rfl 0 F7.out).mono ?_
        rintro e W7 ⟨rfl, hb⟩
        have HB7 := Lib.hid hb
        clear hb hrun7 hcap7 hcapm7 HC7 F7
        obtain ⟨cap8, V8, B⟩ := bytes_of u8 (by omega) W7
        have hrun8 := B.run
        have hcap8 := B.le
        have hcapm8 := B.max
        have HC8 := Lib.hid B
        clear B
        go_wp2_with fail
        refine (mark_txt HC8.out HB7.out (byt u8) rfl 0 F8.out).mono ?_
        rintro e W8 ⟨rfl, hb⟩
        have HB8 := Lib.hid hb
        clear hb hrun8 hcap8 hcapm8 HC8 F8
        go_wp2_with fail
        refine (wakes_at HB8.out).mono ?_
        rintro e W10 ⟨rfl, hb⟩
        have HB10 := Lib.hid hb
        clear hb
        go_wp2_with fail
        go_ret
        exact ⟨rfl, HB10.out⟩

/-! ### THE ROW's STEP: WRITTEN OUT: LEAVE IT -/
set_option maxRecDepth 100000 in
theorem lifted (os : Os) (started : os.Started) (H : Type) (enc : TypeId × Value → H) :
    ReturnsInHanded {} Try.checked os 3 .any (Rows.tailMarkersSpec.pre6 enc Try.prog Try.f3 Rows.tailMarkersRow.domain false) (Rows.tailMarkersSpec.post enc Try.prog Try.f3 false true false false) := by
  refine returnsInHanded_of_change (C := Try.checked) own started (by kernel_rfl) Try.func3
    (ChangeSpec.witness6 (enc := enc) (C := Try.checked) false ⟨#[], #[.int .i64 0, .string ByteArray.empty, .bool false], []⟩ 8 (by kernel_rfl) (by kernel_rfl) (by kernel_rfl) (by kernel_rfl)) ?_
  intro W base args ds gs before hval0 hW hcnd _
  have hval : ∀ (j : Nat) t v, Try.f3.params[j]? = some t → args[j]? = some v → Value.okWide Try.prog W .any base t v := hval0
  have hW' := hW
  obtain ⟨p, q, hA0, hV, rfl, hfz, hnd⟩ := hW
  have hA : DataW.TrodAll enc Try.prog W 0 (fun _ => true) true Try.f3.params.toList args.toList ds p := hA0
  rw [Try.params3] at hA hval
  obtain ⟨v0, vs0, d0, ds0, p0, q0, hargs, rfl, rfl, h0, r0⟩ := trodAll_cons hA
  obtain ⟨v1, vs1, d1, ds1, p1, q1, rfl, rfl, rfl, h1, r1⟩ := trodAll_cons r0
  obtain ⟨v2, vs2, d2, ds2, p2, q2, rfl, rfl, rfl, h2, r2⟩ := trodAll_cons r1
  obtain ⟨rfl, rfl, rfl⟩ := trodAll_nil r2
  obtain rfl : args = #[v0, v1, v2] := by cases args; simp_all
  obtain ⟨rfl, rfl⟩ := trodVars_none hV
  obtain ⟨a0, rfl, rfl, rfl, w0⟩ := open_int Try.underlying3 (hval 0 3 v0 rfl rfl) h0
  obtain ⟨a1, rfl, rfl, rfl, w1⟩ := open_string Try.underlying9 (hval 1 9 v1 rfl rfl) h1
  obtain ⟨a2, rfl, rfl, rfl⟩ := open_bool Try.underlying4 (hval 2 4 v2 rfl rfl) h2
  clear hA0 hval0
  refine (walk a0 a1 a2 w0 w1 W).mono fun e W' ⟨he, hg⟩ => ?_
  subst he
  exact ⟨_, rfl, _, _, _, [], [], [], hW', trodAll_mk1 (shut_bool Try.underlying4 _), (trodAll_cons_mk (shut_int Try.underlying3 w0) (trodAll_cons_mk (shut_string Try.underlying9 w1) (trodAll_cons_mk (shut_bool Try.underlying4 _) trodAll_mk0))), rfl, hg.frame _, fun h => by cases h⟩

theorem over : Rows.tailMarkersRow.holds Try.pinned (OpenSpec.ofChange Rows.tailMarkersSpec) :=
  OpenClaim.holds_of_wide 3 Try.f3 rfl rfl rfl rfl rfl rfl rfl ⟨rfl, rfl, rfl, rfl, rfl⟩ rfl rfl rfl rfl rfl (by kernel_rfl) Try.func3 (by kernel_rfl)
    (of_decide_eq_true (by kernel_rfl)) (by unfold Func.isWrapper; first | (rw [if_pos (by decide +kernel)]; kernel_rfl) | (rw [if_neg (by decide +kernel)]; exact ⟨rfl, rfl⟩))
    (fun os started H enc _ => lifted os started H enc)

/-- ████ THE STATEMENT ████ -/
theorem proved : Rows.TailMarkersSaid :=
  over
#print axioms proved
end Go.Proofs.Ytjdmbldbbohdbaa.tailMarkers
