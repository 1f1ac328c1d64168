/-
  Proved: the law 'scholium/scholiumlaw11.TailComments' returns true for every input, and every argument reads as it did before. No conditions.
-/
import Derived.Test.YtjdmbldbbohdbaaRows
import Derived.Test.YtjdmbldbbohdbaaTlLaw
import Derived.Test.YtjdmbldbbohdbaaKeep
import Derived.WalkKit
import Derived.ProofKit
import Derived.OpenShut
import Derived.ShutString
namespace Go.Proofs.Ytjdmbldbbohdbaa.tailComments
open Go.ChangeShapes Go.WideShapes Go.ChangeAt Go.RowKit
open Go.ChangeMaps (open_string shut_string)
set_option linter.unusedVariables false      -- a walk need not use every 'w<i>' (that an integer argument fits its kind)

theorem own : ownKnob Try.prog.godebug = none := by kernel_rfl

set_option maxHeartbeats 4000000 in
set_option maxRecDepth 100000 in
theorem walk (a0 : Int) (a1 : ByteArray) (a2 : Int) (w0 : (Lit.int .i64 a0).wf = true) (w1 : a1.size ≤ maxLen) (w2 : (Lit.int .u8 a2).wf = true) (w : World) :
    Calls Try.prog 6 #[.int .i64 a0, .string a1, .int .u8 a2] w fun e w' => e = .returned (.bool true) ∧ Below w.heap.size w w' := by
  have hb0 := bounds_i64 w0
  have hb2 := bounds_u8 w2
  have HB : Hid (Below w.heap.size w w) := Below.refl _ _
  go_enter Try.func6, Try.ntmps6
  go_wp2_with fail
  refine (within_nat a0 6 w (by omega) (by omega) (by omega)).mono ?_
  rintro e w' ⟨n, hn, rfl, rfl⟩
  go_wp2_with fail
  refine (text_any a1 20 w (by omega) w1).mono ?_
  rintro e w' ⟨t, _, ht, rfl, rfl⟩
  clear w1
  go_wp2_with fail
  go_loop [7, 8] (fun s i => ∃ (k : Nat) (b : ByteArray), k ≤ n ∧ b.size = k ∧ s = .string b ∧ i = .int .i64 (k : Int) ∧ Hid (byt b = List.replicate k 32)) (fun _ i => n - (intOf i).toNat)
  case atStart => exact ⟨0, ⟨#[]⟩, by omega, rfl, rfl, rfl, rfl⟩
  case round =>
    obtain ⟨k, b, hk, hbs, rfl, rfl, HX⟩ := hrel
    by_cases hlt : k < n
    · have d0 : (k : Int) < (n : Int) := by omega
      go_wp2_with fail
      go_round
      case rel =>
        have hn : byt (b ++ ⟨#[32]⟩) = List.replicate (k + 1) 32 := by rw [byt_append, HX.out, show byt ⟨#[32]⟩ = [32] from rfl, List.replicate_succ']
        exact ⟨k + 1, _, by omega, by rw [ByteArray.size_append, show (⟨#[32]⟩ : ByteArray).size = 1 from rfl]; omega, rfl, by go_num, hn⟩
      case measure => simp [intOf]; omega
    · obtain rfl : n = k := by omega
      have hd : decide ((n : Int) < (n : Int)) = false := decide_eq_false (by omega)
      have sb : b.size ≤ 5 := by omega
      clear hlt hk hbs
      obtain ⟨v0, hv0⟩ : ∃ u, b ++ (⟨#[35]⟩ : ByteArray) = u := ⟨_, rfl⟩
      have sv0 : v0.size ≤ 6 := by rw [← hv0, ByteArray.size_append, show (⟨#[35]⟩ : ByteArray).size = 1 from rfl]; omega
      obtain ⟨u0, hu0⟩ : ∃ u, v0 ++ t = u := ⟨_, rfl⟩
      have su0 : u0.size ≤ 26 := by rw [← hu0, ByteArray.size_append]; omega
      have HU0 : Hid (byt u0 = List.replicate n 32 ++ 35 :: byt t) := by
        show _ = _
        rw [← hu0, ← hv0, byt_append, byt_append, HX.out, show byt ⟨#[35]⟩ = [35] from rfl, List.append_assoc]
        rfl
      by_cases hn0 : 0 < n
      · have d0 : (0 : Int) < (n : Int) := by omega
        have F0 : Hid (cmtF (byt u0) = true) := by
          show _ = _
          rw [HU0.out, cmt_sign]
          exact decide_eq_true hn0
        have F1 : Hid (clrF (byt b) = true) := by
          show _ = _
          rw [HX.out]
          exact clr_rep n
        have F2 : Hid (clrF (byt u0) = true) := by
          show _ = _
          rw [HU0.out, clr_sign]
          exact decide_eq_true hn0
        have G0 : Hid ((if true = true then (blkF (byt u0) : Int) else 0) = (n : Int)) := by
          show _ = _
          rw [if_pos rfl, HU0.out, blk_sign n 35 _ (by decide)]
        obtain ⟨cap0, V0, B⟩ := bytes_of u0 (by omega) w
        have hrun0 := B.run
        have hcap0 := B.le
        have hcapm0 := B.max
        have HC0 := Lib.hid B
        clear B
        go_wp2_with fail
        refine (comment_txt HC0.out HB.out (byt u0) rfl (n : Int) true F0.out G0.out).mono ?_
        rintro e W0 ⟨rfl, hb⟩
        have HB0 := Lib.hid hb
        clear hb hrun0 hcap0 hcapm0 HC0 F0 G0
        obtain ⟨cap1, V1, B⟩ := bytes_of b (by omega) W0
        have hrun1 := B.run
        have hcap1 := B.le
        have hcapm1 := B.max
        have HC1 := Lib.hid B
        clear B
        go_wp2_with fail
        refine (clear_txt HC1.out HB0.out (byt b) rfl true F1.out).mono ?_
        rintro e W1 ⟨rfl, hb⟩
        have HB1 := Lib.hid hb
        clear hb hrun1 hcap1 hcapm1 HC1 F1
        obtain ⟨cap2, V2, B⟩ := bytes_of u0 (by omega) W1
        have hrun2 := B.run
        have hcap2 := B.le
        have hcapm2 := B.max
        have HC2 := Lib.hid B
        clear B
        go_wp2_with fail
        refine (clear_txt HC2.out HB1.out (byt u0) rfl true F2.out).mono ?_
        rintro e W2 ⟨rfl, hb⟩
        have HB2 := Lib.hid hb
        clear hb hrun2 hcap2 hcapm2 HC2 F2
        by_cases h32 : a2 = 32
        · have e32 : (a2 == 32) = true := beq_iff_eq.2 h32
          clear h32
          go_wp2_with fail
          refine (wakes_at HB2.out).mono ?_
          rintro e W10 ⟨rfl, hb⟩
          have HB10 := Lib.hid hb
          clear hb
          go_wp2_with fail
          go_ret
          exact ⟨rfl, HB10.out⟩
        · have e32 : (a2 == 32) = false := beq_eq_false_iff_ne.2 h32
          by_cases h35 : a2 = 35
          · have e35 : (a2 == 35) = true := beq_iff_eq.2 h35
            clear h35
            go_wp2_with fail
            refine (wakes_at HB2.out).mono ?_
            rintro e W10 ⟨rfl, hb⟩
            have HB10 := Lib.hid hb
            clear hb
            go_wp2_with fail
            go_ret
            exact ⟨rfl, HB10.out⟩
          · have e35 : (a2 == 35) = false := beq_eq_false_iff_ne.2 h35
            have hrs := run_string_rd (W2.alloc (.cells #[.int .u8 a2] 5)) (some ⟨W2.heap.size, 0, none⟩) 1 1 [a2] rfl (RdB.new rfl (cellsB_at (zs := [a2])))
            obtain ⟨x, hx⟩ : ∃ x, strOfNums [a2] = x := ⟨_, rfl⟩
            have hxb : byt x = [a2] := by rw [← hx]; exact byt_strOfNums _ (by intro y hy; simp at hy; subst hy; omega)
            have sx : x.size ≤ 1 := by have := byt_len x; rw [hxb] at this; simp at this; omega
            obtain ⟨X, hX⟩ : ∃ X, W2.alloc (.cells #[.int .u8 a2] 5) = X := ⟨_, rfl⟩
            rw [hx, hX] at hrs
            have HBX : Hid (Below w.heap.size w X) := by show Below _ _ _; rw [← hX]; exact HB2.out.alloc HB2.out.size _
            obtain ⟨bx, hbx⟩ : ∃ u, b ++ x = u := ⟨_, rfl⟩
            have sbx : bx.size ≤ 6 := by rw [← hbx, ByteArray.size_append]; omega
            obtain ⟨u3, hu3⟩ : ∃ u, bx ++ t = u := ⟨_, rfl⟩
            have su3 : u3.size ≤ 26 := by rw [← hu3, ByteArray.size_append]; omega
            have F3 : Hid (clrF (byt u3) = false) := by
              show _ = _
              rw [← hu3, ← hbx, byt_append, byt_append, HX.out, hxb, List.append_assoc]
              exact clr_other n a2 (byt t) h32 h35
            clear hxb hx
            obtain ⟨u4, hu4⟩ : ∃ u, (⟨#[45, 45, 45]⟩ : ByteArray) ++ b = u := ⟨_, rfl⟩
            have su4 : u4.size ≤ 30 := by rw [← hu4, ByteArray.size_append, show (⟨#[45, 45, 45]⟩ : ByteArray).size = 3 from rfl]; omega
            have F4 : Hid (mrkF (byt u4) = 1) := by
              show _ = _
              rw [← hu4, byt_append, show byt (⟨#[45, 45, 45]⟩ : ByteArray) = [45, 45, 45] from rfl, HX.out]
              exact mrk_begin _ (clr_rep n)
            obtain ⟨u5, hu5⟩ : ∃ u, (⟨#[46, 46, 46]⟩ : ByteArray) ++ b = u := ⟨_, rfl⟩
            have su5 : u5.size ≤ 30 := by rw [← hu5, ByteArray.size_append, show (⟨#[46, 46, 46]⟩ : ByteArray).size = 3 from rfl]; omega
            have F5 : Hid (mrkF (byt u5) = 2) := by
              show _ = _
              rw [← hu5, byt_append, show byt (⟨#[46, 46, 46]⟩ : ByteArray) = [46, 46, 46] from rfl, HX.out]
              exact mrk_end _ (clr_rep n)
            obtain ⟨u6, hu6⟩ : ∃ u, (⟨#[45, 45]⟩ : ByteArray) ++ b = u := ⟨_, rfl⟩
            have su6 : u6.size ≤ 30 := by rw [← hu6, ByteArray.size_append, show (⟨#[45, 45]⟩ : ByteArray).size = 2 from rfl]; omega
            have F6 : Hid (mrkF (byt u6) = 0) := by
              show _ = _
              rw [← hu6, byt_append, show byt (⟨#[45, 45]⟩ : ByteArray) = [45, 45] from rfl, HX.out]
              exact mrk_two n
            obtain ⟨u7, hu7⟩ : ∃ u, (⟨#[45, 45, 45, 32, 120]⟩ : ByteArray) ++ t = u := ⟨_, rfl⟩
            have su7 : u7.size ≤ 30 := by rw [← hu7, ByteArray.size_append, show (⟨#[45, 45, 45, 32, 120]⟩ : ByteArray).size = 5 from rfl]; omega
            have F7 : Hid (mrkF (byt u7) = 3) := by
              show _ = _
              rw [← hu7, byt_append, show byt (⟨#[45, 45, 45, 32, 120]⟩ : ByteArray) = [45, 45, 45, 32, 120] from rfl]
              exact mrk_bad _
            obtain ⟨u8, hu8⟩ : ∃ u, (⟨#[45, 45, 45, 120]⟩ : ByteArray) ++ t = u := ⟨_, rfl⟩
            have su8 : u8.size ≤ 30 := by rw [← hu8, ByteArray.size_append, show (⟨#[45, 45, 45, 120]⟩ : ByteArray).size = 4 from rfl]; omega
            have F8 : Hid (mrkF (byt u8) = 0) := by
              show _ = _
              rw [← hu8, byt_append, show byt (⟨#[45, 45, 45, 120]⟩ : ByteArray) = [45, 45, 45, 120] from rfl]
              exact mrk_none _
            obtain ⟨u9, hu9⟩ : ∃ u, (⟨#[32, 45, 45, 45]⟩ : ByteArray) ++ b = u := ⟨_, rfl⟩
            have su9 : u9.size ≤ 30 := by rw [← hu9, ByteArray.size_append, show (⟨#[32, 45, 45, 45]⟩ : ByteArray).size = 4 from rfl]; omega
            have F9 : Hid (mrkF (byt u9) = 0) := by
              show _ = _
              rw [← hu9, byt_append, show byt (⟨#[32, 45, 45, 45]⟩ : ByteArray) = [32, 45, 45, 45] from rfl, HX.out]
              exact mrk_in _
            obtain ⟨cap3, V3, B⟩ := bytes_of u3 (by omega) X
            have hrun3 := B.run
            have hcap3 := B.le
            have hcapm3 := B.max
            have HC3 := Lib.hid B
            clear B
            go_wp2_with fail
            refine (clear_txt HC3.out HBX.out (byt u3) rfl false F3.out).mono ?_
            rintro e W3 ⟨rfl, hb⟩
            have HB3 := Lib.hid hb
            clear hb hrun3 hcap3 hcapm3 HC3 F3
            obtain ⟨cap4, V4, B⟩ := bytes_of u4 (by omega) W3
            have hrun4 := B.run
            have hcap4 := B.le
            have hcapm4 := B.max
            have HC4 := Lib.hid B
            clear B
            go_wp2_with fail
            refine (mark_txt HC4.out HB3.out (byt u4) rfl 1 F4.out).mono ?_
            rintro e W4 ⟨rfl, hb⟩
            have HB4 := Lib.hid hb
            clear hb hrun4 hcap4 hcapm4 HC4 F4
            obtain ⟨cap5, V5, B⟩ := bytes_of u5 (by omega) W4
            have hrun5 := B.run
            have hcap5 := B.le
            have hcapm5 := B.max
            have HC5 := Lib.hid B
            clear B
            go_wp2_with fail
            refine (mark_txt HC5.out HB4.out (byt u5) rfl 2 F5.out).mono ?_
            rintro e W5 ⟨rfl, hb⟩
            have HB5 := Lib.hid hb
            clear hb hrun5 hcap5 hcapm5 HC5 F5
            obtain ⟨cap6, V6, B⟩ := bytes_of u6 (by omega) W5
            have hrun6 := B.run
            have hcap6 := B.le
            have hcapm6 := B.max
            have HC6 := Lib.hid B
            clear B
            go_wp2_with fail
            refine (mark_txt HC6.out HB5.out (byt u6) rfl 0 F6.out).mono ?_
            rintro e W6 ⟨rfl, hb⟩
            have HB6 := Lib.hid hb
            clear hb hrun6 hcap6 hcapm6 HC6 F6
            obtain ⟨cap7, V7, B⟩ := bytes_of u7 (by omega) W6
            have hrun7 := B.run
            have hcap7 := B.le
            have hcapm7 := B.max
            have HC7 := Lib.hid B
            clear B
            go_wp2_with fail
            refine (mark_txt HC7.out HB6.out (byt u7) rfl 3 F7.out).mono ?_
            rintro e W7 ⟨rfl, hb⟩
            have HB7 := Lib.hid hb
            clear hb hrun7 hcap7 hcapm7 HC7 F7
            obtain ⟨cap8, V8, B⟩ := bytes_of u8 (by omega) W7
            have hrun8 := B.run
            have hcap8 := B.le
            have hcapm8 := B.max
            have HC8 := Lib.hid B
            clear B
            go_wp2_with fail
            refine (mark_txt HC8.out HB7.out (byt u8) rfl 0 F8.out).mono ?_
            rintro e W8 ⟨rfl, hb⟩
            have HB8 := Lib.hid hb
            clear hb hrun8 hcap8 hcapm8 HC8 F8
            obtain ⟨cap9, V9, B⟩ := bytes_of u9 (by omega) W8
            have hrun9 := B.run
            have hcap9 := B.le
            have hcapm9 := B.max
            have HC9 := Lib.hid B
            clear B
            go_wp2_with fail
            refine (mark_txt HC9.out HB8.out (byt u9) rfl 0 F9.out).mono ?_
            rintro e W9 ⟨rfl, hb⟩
            have HB9 := Lib.hid hb
            clear hb hrun9 hcap9 hcapm9 HC9 F9
            go_wp2_with fail
            refine (wakes_at HB9.out).mono ?_
            rintro e W10 ⟨rfl, hb⟩
            have HB10 := Lib.hid hb
            clear hb
            go_wp2_with fail
            go_ret
            exact ⟨rfl, HB10.out⟩
      · have d0 : decide ((0 : Int) < (n : Int)) = false := decide_eq_false (by omega)
        have F0 : Hid (cmtF (byt u0) = false) := by
          show _ = _
          rw [HU0.out, cmt_sign]
          exact decide_eq_false hn0
        have F1 : Hid (clrF (byt b) = true) := by
          show _ = _
          rw [HX.out]
          exact clr_rep n
        have F2 : Hid (clrF (byt u0) = false) := by
          show _ = _
          rw [HU0.out, clr_sign]
          exact decide_eq_false hn0
        have G0 : Hid ((if false = true then (blkF (byt u0) : Int) else 0) = 0) := by
          show _ = _
          exact if_neg (by decide)
        obtain ⟨cap0, V0, B⟩ := bytes_of u0 (by omega) w
        have hrun0 := B.run
        have hcap0 := B.le
        have hcapm0 := B.max
        have HC0 := Lib.hid B
        clear B
        go_wp2_with fail
        refine (comment_txt HC0.out HB.out (byt u0) rfl 0 false F0.out G0.out).mono ?_
        rintro e W0 ⟨rfl, hb⟩
        have HB0 := Lib.hid hb
        clear hb hrun0 hcap0 hcapm0 HC0 F0 G0
        obtain ⟨cap1, V1, B⟩ := bytes_of b (by omega) W0
        have hrun1 := B.run
        have hcap1 := B.le
        have hcapm1 := B.max
        have HC1 := Lib.hid B
        clear B
        go_wp2_with fail
        refine (clear_txt HC1.out HB0.out (byt b) rfl true F1.out).mono ?_
        rintro e W1 ⟨rfl, hb⟩
        have HB1 := Lib.hid hb
        clear hb hrun1 hcap1 hcapm1 HC1 F1
        obtain ⟨cap2, V2, B⟩ := bytes_of u0 (by omega) W1
        have hrun2 := B.run
        have hcap2 := B.le
        have hcapm2 := B.max
        have HC2 := Lib.hid B
        clear B
        go_wp2_with fail
        refine (clear_txt HC2.out HB1.out (byt u0) rfl false F2.out).mono ?_
        rintro e W2 ⟨rfl, hb⟩
        have HB2 := Lib.hid hb
        clear hb hrun2 hcap2 hcapm2 HC2 F2
        by_cases h32 : a2 = 32
        · have e32 : (a2 == 32) = true := beq_iff_eq.2 h32
          clear h32
          go_wp2_with fail
          refine (wakes_at HB2.out).mono ?_
          rintro e W10 ⟨rfl, hb⟩
          have HB10 := Lib.hid hb
          clear hb
          go_wp2_with fail
          go_ret
          exact ⟨rfl, HB10.out⟩
        · have e32 : (a2 == 32) = false := beq_eq_false_iff_ne.2 h32
          by_cases h35 : a2 = 35
          · have e35 : (a2 == 35) = true := beq_iff_eq.2 h35
            clear h35
            go_wp2_with fail
            refine (wakes_at HB2.out).mono ?_
            rintro e W10 ⟨rfl, hb⟩
            have HB10 := Lib.hid hb
            clear hb
            go_wp2_with fail
            go_ret
            exact ⟨rfl, HB10.out⟩
          · have e35 : (a2 == 35) = false := beq_eq_false_iff_ne.2 h35
            have hrs := run_string_rd (W2.alloc (.cells #[.int .u8 a2] 5)) (some ⟨W2.heap.size, 0, none⟩) 1 1 [a2] rfl (RdB.new rfl (cellsB_at (zs := [a2])))
            obtain ⟨x, hx⟩ : ∃ x, strOfNums [a2] = x := ⟨_, rfl⟩
            have hxb : byt x = [a2] := by rw [← hx]; exact byt_strOfNums _ (by intro y hy; simp at hy; subst hy; omega)
            have sx : x.size ≤ 1 := by have := byt_len x; rw [hxb] at this; simp at this; omega
            obtain ⟨X, hX⟩ : ∃ X, W2.alloc (.cells #[.int .u8 a2] 5) = X := ⟨_, rfl⟩
            rw [hx, hX] at hrs
            have HBX : Hid (Below w.heap.size w X) := by show Below _ _ _; rw [← hX]; exact HB2.out.alloc HB2.out.size _
            obtain ⟨bx, hbx⟩ : ∃ u, b ++ x = u := ⟨_, rfl⟩
            have sbx : bx.size ≤ 6 := by rw [← hbx, ByteArray.size_append]; omega
            obtain ⟨u3, hu3⟩ : ∃ u, bx ++ t = u := ⟨_, rfl⟩
            have su3 : u3.size ≤ 26 := by rw [← hu3, ByteArray.size_append]; omega
            have F3 : Hid (clrF (byt u3) = false) := by
              show _ = _
              rw [← hu3, ← hbx, byt_append, byt_append, HX.out, hxb, List.append_assoc]
              exact clr_other n a2 (byt t) h32 h35
            clear hxb hx
            obtain ⟨u4, hu4⟩ : ∃ u, (⟨#[45, 45, 45]⟩ : ByteArray) ++ b = u := ⟨_, rfl⟩
            have su4 : u4.size ≤ 30 := by rw [← hu4, ByteArray.size_append, show (⟨#[45, 45, 45]⟩ : ByteArray).size = 3 from rfl]; omega
            have F4 : Hid (mrkF (byt u4) = 1) := by
              show _ = _
              rw [← hu4, byt_append, show byt (⟨#[45, 45, 45]⟩ : ByteArray) = [45, 45, 45] from rfl, HX.out]
              exact mrk_begin _ (clr_rep n)
            obtain ⟨u5, hu5⟩ : ∃ u, (⟨#[46, 46, 46]⟩ : ByteArray) ++ b = u := ⟨_, rfl⟩
            have su5 : u5.size ≤ 30 := by rw [← hu5, ByteArray.size_append, show (⟨#[46, 46, 46]⟩ : ByteArray).size = 3 from rfl]; omega
            have F5 : Hid (mrkF (byt u5) = 2) := by
              show _ = _
              rw [← hu5, byt_append, show byt (⟨#[46, 46, 46]⟩ : ByteArray) = [46, 46, 46] from rfl, HX.out]
              exact mrk_end _ (clr_rep n)
            obtain ⟨u6, hu6⟩ : ∃ u, (⟨#[45, 45]⟩ : ByteArray) ++ b = u := ⟨_, rfl⟩
            have su6 : u6.size ≤ 30 := by rw [← hu6, ByteArray.size_append, show (⟨#[45, 45]⟩ : ByteArray).size = 2 from rfl]; omega
            have F6 : Hid (mrkF (byt u6) = 0) := by
              show _ = _
              rw [← hu6, byt_append, show byt (⟨#[45, 45]⟩ : ByteArray) = [45, 45] from rfl, HX.out]
              exact mrk_two n
            obtain ⟨u7, hu7⟩ : ∃ u, (⟨#[45, 45, 45, 32, 120]⟩ : ByteArray) ++ t = u := ⟨_, rfl⟩
            have su7 : u7.size ≤ 30 := by rw [← hu7, ByteArray.size_append, show (⟨#[45, 45, 45, 32, 120]⟩ : ByteArray).size = 5 from rfl]; omega
            have F7 : Hid (mrkF (byt u7) = 3) := by
              show _ = _
              rw [← hu7, byt_append, show byt (⟨#[45, 45, 45, 32, 120]⟩ : ByteArray) = [45, 45, 45, 32, 120] from rfl]
              exact mrk_bad _
            obtain ⟨u8, hu8⟩ : ∃ u, (⟨#[45, 45, 45, 120]⟩ : ByteArray) ++ t = u := ⟨_, rfl⟩
            have su8 : u8.size ≤ 30 := by rw [← hu8, ByteArray.size_append, show (⟨#[45, 45, 45, 120]⟩ : ByteArray).size = 4 from rfl]; omega
            have F8 : Hid (mrkF (byt u8) = 0) := by
              show _ = _
              rw [← hu8, byt_append, show byt (⟨#[45, 45, 45, 120]⟩ : ByteArray) = [45, 45, 45, 120] from rfl]
              exact mrk_none _
            obtain ⟨u9, hu9⟩ : ∃ u, (⟨#[32, 45, 45, 45]⟩ : ByteArray) ++ b = u := ⟨_, rfl⟩
            have su9 : u9.size ≤ 30 := by rw [← hu9, ByteArray.size_append, show (⟨#[32, 45, 45, 45]⟩ : ByteArray).size = 4 from rfl]; omega
            have F9 : Hid (mrkF (byt u9) = 0) := by
              show _ = _
              rw [← hu9, byt_append, show byt (⟨#[32, 45, 45, 45]⟩ : ByteArray) = [32, 45, 45, 45] from rfl, HX.out]
              exact mrk_in _
            obtain ⟨cap3, V3, B⟩ := bytes_of u3 (by omega) X
            have hrun3 := B.run
            have hcap3 := B.le
            have hcapm3 := B.max
            have HC3 := Lib.hid B
            clear B
            go_wp2_with fail
            refine (clear_txt HC3.out HBX.out (byt u3) rfl false F3.out).mono ?_
            rintro e W3 ⟨rfl, hb⟩
            have HB3 := Lib.hid hb
            clear hb hrun3 hcap3 hcapm3 HC3 F3
            obtain ⟨cap4, V4, B⟩ := bytes_of u4 (by omega) W3
            have hrun4 := B.run
            have hcap4 := B.le
            have hcapm4 := B.max
            have HC4 := Lib.hid B
            clear B
            go_wp2_with fail
            refine (mark_txt HC4.out HB3.out (byt u4) rfl 1 F4.out).mono ?_
            rintro e W4 ⟨rfl, hb⟩
            have HB4 := Lib.hid hb
            clear hb hrun4 hcap4 hcapm4 HC4 F4
            obtain ⟨cap5, V5, B⟩ := bytes_of u5 (by omega) W4
            have hrun5 := B.run
            have hcap5 := B.le
            have hcapm5 := B.max
            have HC5 := Lib.hid B
            clear B
            go_wp2_with fail
            refine (mark_txt HC5.out HB4.out (byt u5) rfl 2 F5.out).mono ?_
            rintro e W5 ⟨rfl, hb⟩
            have HB5 := Lib.hid hb
            clear hb hrun5 hcap5 hcapm5 HC5 F5
            obtain ⟨cap6, V6, B⟩ := bytes_of u6 (by omega) W5
            have hrun6 := B.run
            have hcap6 := B.le
            have hcapm6 := B.max
            have HC6 := Lib.hid B
            clear B
            go_wp2_with fail
            refine (mark_txt HC6.out HB5.out (byt u6) rfl 0 F6.out).mono ?_
            rintro e W6 ⟨rfl, hb⟩
            have HB6 := Lib.hid hb
            clear hb hrun6 hcap6 hcapm6 HC6 F6
            obtain ⟨cap7, V7, B⟩ := bytes_of u7 (by omega) W6
            have hrun7 := B.run
            have hcap7 := B.le
            have hcapm7 := B.max
            have HC7 := Lib.hid B
            clear B
            go_wp2_with fail
            refine (mark_txt HC7.out HB6.out (byt u7) rfl 3 F7.out).mono ?_
            rintro e W7 ⟨rfl, hb⟩
            have HB7 := Lib.hid hb
            clear hb hrun7 hcap7 hcapm7 HC7 F7
            obtain ⟨cap8, V8, B⟩ := bytes_of u8 (by omega) W7
            have hrun8 := B.run
            have hcap8 := B.le
            have hcapm8 := B.max
            have HC8 := Lib.hid B
            clear B
            go_wp2_with fail
            refine (mark_txt HC8.out HB7.out (byt u8) rfl 0 F8.out).mono ?_
            rintro e W8 ⟨rfl, hb⟩
            have HB8 := Lib.hid hb
            clear hb hrun8 hcap8 hcapm8 HC8 F8
            obtain ⟨cap9, V9, B⟩ := bytes_of u9 (by omega) W8
            have hrun9 := B.run
            have hcap9 := B.le
            have hcapm9 := B.max
            have HC9 := Lib.hid B
            clear B
            go_wp2_with fail
            refine (mark_txt HC9.out HB8.out (byt u9) rfl 0 F9.out).mono ?_
            rintro e W9 ⟨rfl, hb⟩
            have HB9 := Lib.hid hb
            clear hb hrun9 hcap9 hcapm9 HC9 F9
            go_wp2_with fail
            refine (wakes_at HB9.out).mono ?_
            rintro e W10 ⟨rfl, hb⟩
            have HB10 := Lib.hid hb
            clear hb
            go_wp2_with fail
            go_ret
            exact ⟨rfl, HB10.out⟩

/-! ### THE ROW's STEP: WRITTEN OUT: LEAVE IT -/
set_option maxRecDepth 100000 in
theorem lifted (os : Os) (started : os.Started) (H : Type) (enc : TypeId × Value → H) :
    ReturnsInHanded {} Try.checked os 6 .any (Rows.tailCommentsSpec.pre6 enc Try.prog Try.f6 Rows.tailCommentsRow.domain false) (Rows.tailCommentsSpec.post enc Try.prog Try.f6 false true false false) := by
  refine returnsInHanded_of_change (C := Try.checked) own started (by kernel_rfl) Try.func6
    (ChangeSpec.witness6 (enc := enc) (C := Try.checked) false ⟨#[], #[.int .i64 0, .string ByteArray.empty, .int .u8 0], []⟩ 8 (by kernel_rfl) (by kernel_rfl) (by kernel_rfl) (by kernel_rfl)) ?_
  intro W base args ds gs before hval0 hW hcnd _
  have hval : ∀ (j : Nat) t v, Try.f6.params[j]? = some t → args[j]? = some v → Value.okWide Try.prog W .any base t v := hval0
  have hW' := hW
  obtain ⟨p, q, hA0, hV, rfl, hfz, hnd⟩ := hW
  have hA : DataW.TrodAll enc Try.prog W 0 (fun _ => true) true Try.f6.params.toList args.toList ds p := hA0
  rw [Try.params6] at hA hval
  obtain ⟨v0, vs0, d0, ds0, p0, q0, hargs, rfl, rfl, h0, r0⟩ := trodAll_cons hA
  obtain ⟨v1, vs1, d1, ds1, p1, q1, rfl, rfl, rfl, h1, r1⟩ := trodAll_cons r0
  obtain ⟨v2, vs2, d2, ds2, p2, q2, rfl, rfl, rfl, h2, r2⟩ := trodAll_cons r1
  obtain ⟨rfl, rfl, rfl⟩ := trodAll_nil r2
  obtain rfl : args = #[v0, v1, v2] := by cases args; simp_all
  obtain ⟨rfl, rfl⟩ := trodVars_none hV
  obtain ⟨a0, rfl, rfl, rfl, w0⟩ := open_int Try.underlying3 (hval 0 3 v0 rfl rfl) h0
  obtain ⟨a1, rfl, rfl, rfl, w1⟩ := open_string Try.underlying9 (hval 1 9 v1 rfl rfl) h1
  obtain ⟨a2, rfl, rfl, rfl, w2⟩ := open_int Try.underlying5 (hval 2 5 v2 rfl rfl) h2
  clear hA0 hval0
  refine (walk a0 a1 a2 w0 w1 w2 W).mono fun e W' ⟨he, hg⟩ => ?_
  subst he
  exact ⟨_, rfl, _, _, _, [], [], [], hW', trodAll_mk1 (shut_bool Try.underlying4 _), (trodAll_cons_mk (shut_int Try.underlying3 w0) (trodAll_cons_mk (shut_string Try.underlying9 w1) (trodAll_cons_mk (shut_int Try.underlying5 w2) trodAll_mk0))), rfl, hg.frame _, fun h => by cases h⟩

theorem over : Rows.tailCommentsRow.holds Try.pinned (OpenSpec.ofChange Rows.tailCommentsSpec) :=
  OpenClaim.holds_of_wide 6 Try.f6 rfl rfl rfl rfl rfl rfl rfl ⟨rfl, rfl, rfl, rfl, rfl⟩ rfl rfl rfl rfl rfl (by kernel_rfl) Try.func6 (by kernel_rfl)
    (of_decide_eq_true (by kernel_rfl)) (by unfold Func.isWrapper; first | (rw [if_pos (by decide +kernel)]; kernel_rfl) | (rw [if_neg (by decide +kernel)]; exact ⟨rfl, rfl⟩))
    (fun os started H enc _ => lifted os started H enc)

/-- ████ THE STATEMENT ████ -/
theorem proved : Rows.TailCommentsSaid :=
  over
#print axioms proved
end Go.Proofs.Ytjdmbldbbohdbaa.tailComments
