/-
  Proved: the law 'scholium/scholiumlaw10.PropsBack' returns true for every input, and every argument reads as it did before. No conditions.
-/
import Derived.Test.YtpmikhhnnjhiaaaRows
import Derived.Test.YtpmikhhnnjhiaaaPrBack
import Derived.Test.YtpmikhhnnjhiaaaPrRTake
import Derived.Test.YtpmikhhnnjhiaaaKeep
import Derived.WalkKit
import Derived.ProofKit
import Derived.OpenShut
import Derived.ShutString
namespace Go.Proofs.Ytpmikhhnnjhiaaa.propsBack
open Go.ChangeShapes Go.WideShapes Go.ChangeAt Go.RowKit
open Go.ChangeMaps (open_string shut_string)
set_option linter.unusedVariables false      -- a walk need not use every 'w<i>' (that an integer argument fits its kind)

theorem own : ownKnob Try.prog.godebug = none := by kernel_rfl

set_option maxHeartbeats 4000000 in
set_option maxRecDepth 100000 in
theorem walk (a0 : Int) (a1 : Int) (a2 : Bool) (a3 : ByteArray) (w0 : (Lit.int .i64 a0).wf = true) (w1 : (Lit.int .i64 a1).wf = true) (w3 : a3.size ≤ maxLen) (w : World) :
    Calls Try.prog 6 #[.int .i64 a0, .int .i64 a1, .bool a2, .string a3] w fun e w' => e = .returned (.bool true) ∧ Below w.heap.size w w' := by
  have hb0 := bounds_i64 w0
  have hb1 := bounds_i64 w1
  go_enter Try.func6, Try.ntmps6
  go_upto_if 20 with fail
  obtain ⟨g, hg⟩ : ∃ g, w.heap.size = g := ⟨_, rfl⟩
  obtain ⟨V0, hV0⟩ : ∃ V, w.alloc (.cells #[.string ⟨#[]⟩, .string ⟨#[]⟩] 25) = V := ⟨_, rfl⟩
  have HOW0 : Hid (Own2 V0 g 25 ⟨#[]⟩ ⟨#[]⟩) := by show Own2 _ _ _ _ _; rw [← hV0, ← hg]; exact Own2.new _ _ _ _
  have HB0 : Hid (Below w.heap.size w V0) := by show Below _ _ _; rw [← hV0]; exact (Below.refl _ _).alloc (Nat.le_refl _) _
  have HG : Hid (w.heap.size ≤ g) := by show _ ≤ g; omega
  rw [hV0, hg]
  clear hV0 hg
  go_cut [8] (fun s V => s = .bool false ∧ Hid (∃ an : ByteArray, AncOk (byt an) ∧ an.size ≤ 10 ∧ Own2 V g 25 ⟨#[]⟩ an ∧ Below w.heap.size w V))
  case first =>
    have c0 := HOW0.out.c0
    have c1 := HOW0.out.c1
    have z1 := HOW0.out.z1
    go_wp2_with fail
    · refine (within_nat a0 10 V0 (by omega) (by omega) (by omega)).mono ?_
      rintro e w1 ⟨k, hk, rfl, rfl⟩
      go_wp2_with fail
      rw [show (1 : Int) + (k : Int) = ((1 + k : Nat) : Int) by omega]
      refine (text_any _ (1 + k) V0 (by omega) (by decide)).mono ?_
      rintro e w1 ⟨an, han, hans, rfl, rfl⟩
      have HAN : Hid (AncOk (byt an)) := .inr (by rw [han]; exact anc_at ⟨k, hk⟩)
      clear han
      go_wp2_with fail
      go_meet
      exact ⟨rfl, an, HAN.out, by omega, HOW0.out.set1, HB0.out.setCell (p := ⟨g, 1, none⟩) HG.out _⟩
    · go_meet
      exact ⟨rfl, ⟨#[]⟩, .inl rfl, by decide, HOW0.out, HB0.out⟩
  case rest =>
    obtain ⟨rfl, HC⟩ := hcut
    obtain ⟨an, han, hans, how1, hb1'⟩ := HC.out
    have HAN := Lib.hid han
    have HOW1 := Lib.hid how1
    have HB1 := Lib.hid hb1'
    clear han how1 hb1' HC HOW0 HB0
    go_wp2_with fail
    refine (within_nat a1 5 _ (by omega) (by omega) (by omega)).mono ?_
    rintro e w1 ⟨k, hk, rfl, rfl⟩
    obtain ⟨gl, hgl⟩ : ∃ g, wc.heap.size = g := ⟨_, rfl⟩
    obtain ⟨V1, hV1⟩ : ∃ V, wc.alloc (.cells #[.string ⟨#[]⟩, .string ⟨#[33]⟩, .string ⟨#[33, 120]⟩, .string ⟨#[33, 33, 115, 116, 114]⟩, .string ⟨#[33, 33, 109, 97, 112]⟩] 9) = V := ⟨_, rfl⟩
    have hb01 : Below wc.heap.size wc V1 := by rw [← hV1]; exact (Below.refl _ _).alloc (Nat.le_refl _) _
    obtain ⟨tg, htg, htgs, htok⟩ := tagL_at k hk
    have hcd : V1.cell? ⟨gl, k, none⟩ = some (.string tg) := by
      rw [← hV1, ← hgl, World.cell?_alloc_mark]
      have : (#[.string ⟨#[]⟩, .string ⟨#[33]⟩, .string ⟨#[33, 120]⟩, .string ⟨#[33, 33, 115, 116, 114]⟩, .string ⟨#[33, 33, 109, 97, 112]⟩] : Array Value) = (tagL.map Value.string).toArray := rfl
      rw [this]; simp [htg]
    have how2 := HOW1.out.below hb01
    have HB2 := Lib.hid (below_step HB1.out hb01)
    have HOW2 := Lib.hid how2
    have HTOK := Lib.hid htok
    rw [hV1, hgl]
    have c0 := how2.c0
    have c1 := how2.c1
    have z0 := how2.z0
    clear hV1 hgl hb01 htg how2 htok HB1 HOW1
    go_upto_region 5 with fail
    obtain ⟨V2, hV2⟩ : ∃ V, V1.setCell ⟨g, 0, none⟩ (.string tg) = V := ⟨_, rfl⟩
    have HOW3 : Hid (Own2 V2 g 25 tg an) := by show Own2 _ _ _ _ _; rw [← hV2]; exact HOW2.out.set0
    have HB3 : Hid (Below w.heap.size w V2) := by show Below _ _ _; rw [← hV2]; exact HB2.out.setCell (p := ⟨g, 0, none⟩) HG.out _
    rw [hV2]
    clear hV2 hcd c0 c1 z0 HOW2 HB2
    have c0 := HOW3.out.c0
    have c1 := HOW3.out.c1
    go_wp2_with fail
    refine (put_any tg an (by omega) (by omega) V2).mono ?_
    rintro e V3 ⟨r, hr, rfl, hb3⟩
    have HR := Lib.hid hr
    have hrs : r.size ≤ 20 := by
      rw [← byt_len, hr]; unfold putF
      split
      · rw [byt_len]; omega
      · split
        · simp [byt_len]; omega
        · simp [byt_len]; omega
    have HB4 := Lib.hid (below_step HB3.out hb3)
    have HOW4 := Lib.hid (HOW3.out.below hb3)
    clear c0 c1 hr hb3 HB3 HOW3
    obtain ⟨bt, hbt⟩ : ∃ b, (a2 && (!an.toList.isEmpty && !tg.toList.isEmpty)) = b := ⟨_, rfl⟩
    have HBT := Lib.hid hbt
    have c0 := HOW4.out.c0
    have c1 := HOW4.out.c1
    clear hbt
    go_upto_region 6 with fail
    go_cut [44] (fun s W => s = .bool bt ∧ V3 = W)
    case first =>
      have hbt := HBT.out
      clear HBT
      cases a2 with
      | false =>
        go_wp2_with fail
        go_meet
        exact ⟨by rw [← hbt]; rfl, rfl⟩
      | true =>
        cases he : an.toList.isEmpty with
        | true =>
          rw [he] at hbt
          go_wp2_with fail
          go_meet
          exact ⟨by rw [← hbt]; rfl, rfl⟩
        | false =>
          cases hf : tg.toList.isEmpty with
          | true =>
            rw [he, hf] at hbt
            go_wp2_with fail
            go_meet
            exact ⟨by rw [← hbt]; rfl, rfl⟩
          | false =>
            rw [he, hf] at hbt
            go_wp2_with fail
            go_meet
            exact ⟨by rw [← hbt]; rfl, rfl⟩
    case rest =>
      obtain ⟨rfl, rfl⟩ := hcut
      go_upto_if 44 with fail
      go_cut [10] (fun s W => ∃ s' : ByteArray, s = .string s' ∧ s'.size ≤ 20 ∧ Hid (PutOk (byt s') (byt tg) (byt an)) ∧ V3 = W)
      case first =>
        cases bt with
        | false =>
          go_wp2_with fail
          go_meet
          exact ⟨r, rfl, by omega, by show PutOk _ _ _; rw [HR.out]; exact put_ok _ _ HTOK.out HAN.out, rfl⟩
        | true =>
          go_wp2_with fail
          go_meet
          have hb := HBT.out
          simp only [Bool.and_eq_true, Bool.not_eq_true'] at hb
          have h1 : byt tg ≠ [] := fun h => by have := hb.2.2; rw [empty_byt, h] at this; cases this
          have h2 : byt an ≠ [] := fun h => by have := hb.2.1; rw [empty_byt, h] at this; cases this
          have e : byt (tg ++ (⟨#[32, 32, 38]⟩ : ByteArray) ++ an) = byt tg ++ 32 :: 32 :: 38 :: byt an := by rw [byt_append, byt_append, List.append_assoc]; rfl
          refine ⟨_, rfl, ?_, ?_, rfl⟩
          · rw [← byt_len, e]; simp [byt_len]; omega
          · show PutOk _ _ _
            rw [e]; exact turn_ok _ _ HTOK.out HAN.out h1 h2
      case rest =>
        obtain ⟨s, rfl, hss, HPO, rfl⟩ := hcut
        clear HBT HR hrs HTOK HAN c0 c1
        go_wp2_with fail
        refine (text_any a3 10 V3 (by omega) w3).mono ?_
        rintro e w1 ⟨tl0, -, htl0, rfl, rfl⟩
        go_upto_region 9 with fail
        go_cut [3, 70] (fun c s W => c = .string tl0 ∧ ∃ b, s = .bool b ∧ Hid (b = false → tlOk (byt tl0)) ∧ V3 = W)
        case first =>
          cases hbt : byt tl0 with
          | nil =>
            have hz : tl0.size = 0 := by rw [← byt_len, hbt]; rfl
            have d0 : decide ((0 : Int) < (tl0.size : Int)) = false := decide_eq_false (by omega)
            have HOK : Hid (tlOk (byt tl0)) := by show tlOk _; rw [hbt]; exact ⟨rfl, by simp⟩
            have d0n : decide (0 < tl0.size) = false := decide_eq_false (by omega)
            clear hbt hz
            go_wp2_with fail
            go_meet
            exact ⟨rfl, false, rfl, by show false = false → _; exact fun _ => HOK.out, rfl⟩
          | cons x t =>
            obtain ⟨hs1, he, -, hix⟩ := split_byt tl0 x t hbt
            have d0 : (0 : Int) < (tl0.size : Int) := by omega
            have HOK : Hid (x ≠ 38 → x ≠ 33 → x ≠ 32 → tlOk (byt tl0)) := by
              show _ → _
              intro h1 h2 h3
              rw [hbt]; exact ⟨by simp [begF, h1, h2], by simp [h3]⟩
            clear hbt
            by_cases h38 : x = 38
            · subst h38
              go_wp2_with fail
              go_meet
              exact ⟨rfl, true, rfl, (show true = false → tlOk (byt tl0) from fun h => by cases h), rfl⟩
            · have e38 : (x == 38) = false := beq_eq_false_iff_ne.2 h38
              by_cases h33 : x = 33
              · subst h33
                go_wp2_with fail
                go_meet
                exact ⟨rfl, true, rfl, (show true = false → tlOk (byt tl0) from fun h => by cases h), rfl⟩
              · have e33 : (x == 33) = false := beq_eq_false_iff_ne.2 h33
                by_cases h32 : x = 32
                · subst h32
                  go_wp2_with fail
                  go_meet
                  exact ⟨rfl, true, rfl, (show true = false → tlOk (byt tl0) from fun h => by cases h), rfl⟩
                · have e32 : (x == 32) = false := beq_eq_false_iff_ne.2 h32
                  go_wp2_with fail
                  go_meet
                  exact ⟨rfl, false, rfl, by show false = false → _; exact fun _ => HOK.out h38 h33 h32, rfl⟩
        case rest =>
          obtain ⟨rfl, b, rfl, HBO, rfl⟩ := hcut
          go_upto_if 70 with fail
          go_cut [3] (fun c W => ∃ tl : ByteArray, c = .string tl ∧ tl.size ≤ 11 ∧ Hid (tlOk (byt tl)) ∧ V3 = W)
          case first =>
            cases b with
            | false =>
              go_wp2_with fail
              go_meet
              exact ⟨tl0, rfl, by omega, (by first | exact HBO.out rfl | exact HBO.out trivial), rfl⟩
            | true =>
              go_wp2_with fail
              go_meet
              have e : byt ((⟨#[120]⟩ : ByteArray) ++ tl0) = 120 :: byt tl0 := by rw [byt_append]; rfl
              refine ⟨_, rfl, ?_, ?_, rfl⟩
              · rw [← byt_len, e]; simp [byt_len]; omega
              · show tlOk _
                rw [e]; exact ⟨rfl, by simp⟩
          case rest =>
            obtain ⟨tl, rfl, htls, HTL, rfl⟩ := hcut
            clear HBO
            rcases HPO.out with ⟨h1, h2, h3⟩ | ⟨hne, htk, htr⟩
            · clear HPO
              obtain ⟨u1, hu1⟩ : ∃ u, s ++ (⟨#[32]⟩ : ByteArray) = u := ⟨_, rfl⟩
              have hu1b : byt u1 = byt s ++ [32] := by rw [← hu1, byt_append]; rfl
              have hu1s : u1.size ≤ 21 := by rw [← byt_len, hu1b]; simp [byt_len]; omega
              obtain ⟨u2, hu2⟩ : ∃ u, u1 ++ tl = u := ⟨_, rfl⟩
              have hu2b : byt u2 = byt s ++ 32 :: byt tl := by rw [← hu2, byt_append, hu1b, List.append_assoc]; rfl
              have hu2s : u2.size ≤ 40 := by rw [← byt_len, hu2b]; simp [byt_len]; omega
              obtain ⟨cap, W1, B⟩ := bytes_of u2 (by omega) V3
              have hrun := B.run
              have hcap := B.le
              have hcapm := B.max
              have HB := Lib.hid B
              have HTK2 : Hid (takeP (byt s) = (byt tg, byt an, 0, true)) := by show _ = _; rw [h1, h2, h3]; rfl
              have hse : s.toList.isEmpty = true := by rw [empty_byt, h1]; rfl
              clear hu1b hu2b B h1 h2 h3
              go_wp2_with fail
              refine (take_txt HB.out (Below.refl _ _) (by omega) (byt u2) rfl).mono ?_
              rintro e W2 ⟨t1, p1, ht1, hp1, rfl, hb2⟩
              obtain ⟨kk, hkk⟩ : ∃ k, (takeP (byt u2)).2.2.1 = k := ⟨_, rfl⟩
              obtain ⟨ok, hok⟩ : ∃ ok, (takeP (byt u2)).2.2.2 = ok := ⟨_, rfl⟩
              rw [hkk, hok]
              clear ht1 hp1 hkk hok
              obtain ⟨X2, hX2⟩ : ∃ X, W2.alloc (.cells #[.string t1, .string p1] 25) = X := ⟨_, rfl⟩
              obtain ⟨g2, hg2⟩ : ∃ g, W2.heap.size = g := ⟨_, rfl⟩
              have hb32 : Below V3.heap.size V3 X2 := by rw [← hX2]; exact hb2.alloc hb2.size _
              have HQ2 : Hid (Own2 X2 g2 25 t1 p1) := by show Own2 _ _ _ _ _; rw [← hX2, ← hg2]; exact Own2.new _ _ _ _
              have HP2 := Lib.hid (HOW4.out.below hb32)
              have HB2 := Lib.hid (below_step HB4.out hb32)
              clear hb2 hb32 HB4 HOW4 hrun HB
              obtain ⟨cap2, W3, B2⟩ := bytes_of s (by omega) X2
              have hrun2 := B2.run
              have hcap2 := B2.le
              have hcapm2 := B2.max
              have HBB2 := Lib.hid B2
              clear B2
              go_wp2_with fail
              refine (take_txt HBB2.out (Below.refl _ _) (by omega) (byt s) rfl).mono ?_
              rintro e W4 ⟨t3, p3, ht3, hp3, rfl, hb4⟩
              rw [HTK2.out] at ht3 hp3 ⊢
              obtain rfl : tg = t3 := (byt_inj ht3).symm
              obtain rfl : an = p3 := (byt_inj hp3).symm
              clear ht3 hp3 HTK2
              obtain ⟨X4, hX4⟩ : ∃ X, W4.alloc (.cells #[.string tg, .string an] 25) = X := ⟨_, rfl⟩
              obtain ⟨g4, hg4⟩ : ∃ g, W4.heap.size = g := ⟨_, rfl⟩
              have hb24 : Below X2.heap.size X2 X4 := by rw [← hX4]; exact hb4.alloc hb4.size _
              have HR4 : Hid (Own2 X4 g4 25 tg an) := by show Own2 _ _ _ _ _; rw [← hX4, ← hg4]; exact Own2.new _ _ _ _
              have HQ4 := Lib.hid (HQ2.out.below hb24)
              have HP4 := Lib.hid (HP2.out.below hb24)
              have HB6 := Lib.hid (below_step HB2.out hb24)
              have c0 := HP4.out.c0
              have c1 := HP4.out.c1
              have d0 := HQ4.out.c0
              have d1 := HQ4.out.c1
              have e0 := HR4.out.c0
              have e1 := HR4.out.c1
              clear hb4 hb24 HB2 HQ2 HP2 hrun2 HBB2 hX2 hg2
              simp only [show ((0 : Nat) : Int) = 0 from rfl]
              go_wp2_with fail
              refine (wakes_at HB6.out).mono ?_
              rintro e W10 ⟨rfl, hb10⟩
              have HB10 := Lib.hid hb10
              clear hb10
              go_wp2_with fail
              go_ret
              exact ⟨rfl, HB10.out⟩
            · clear HPO
              obtain ⟨u1, hu1⟩ : ∃ u, s ++ (⟨#[32]⟩ : ByteArray) = u := ⟨_, rfl⟩
              have hu1b : byt u1 = byt s ++ [32] := by rw [← hu1, byt_append]; rfl
              have hu1s : u1.size ≤ 21 := by rw [← byt_len, hu1b]; simp [byt_len]; omega
              obtain ⟨u2, hu2⟩ : ∃ u, u1 ++ tl = u := ⟨_, rfl⟩
              have hu2b : byt u2 = byt s ++ 32 :: byt tl := by rw [← hu2, byt_append, hu1b, List.append_assoc]; rfl
              have hu2s : u2.size ≤ 40 := by rw [← byt_len, hu2b]; simp [byt_len]; omega
              obtain ⟨cap, W1, B⟩ := bytes_of u2 (by omega) V3
              have hrun := B.run
              have hcap := B.le
              have hcapm := B.max
              have HB := Lib.hid B
              have HTK : Hid (takeP (byt u2) = (byt tg, byt an, s.size, true)) := by show _ = _; rw [hu2b, htr (byt tl) HTL.out, byt_len]
              have HTK2 : Hid (takeP (byt s) = (byt tg, byt an, s.size, true)) := by show _ = _; rw [htk, byt_len]
              have hse : s.toList.isEmpty = false := by
                rw [empty_byt]
                cases hh : byt s with
                | nil => exact absurd hh hne
                | cons x t => rfl
              clear hu1b hu2b B hne htk htr
              go_wp2_with fail
              refine (take_txt HB.out (Below.refl _ _) (by omega) (byt u2) rfl).mono ?_
              rintro e W2 ⟨t1, p1, ht1, hp1, rfl, hb2⟩
              rw [HTK.out] at ht1 hp1 ⊢
              obtain rfl : tg = t1 := (byt_inj ht1).symm
              obtain rfl : an = p1 := (byt_inj hp1).symm
              clear ht1 hp1 HTK
              obtain ⟨X2, hX2⟩ : ∃ X, W2.alloc (.cells #[.string tg, .string an] 25) = X := ⟨_, rfl⟩
              obtain ⟨g2, hg2⟩ : ∃ g, W2.heap.size = g := ⟨_, rfl⟩
              have hb32 : Below V3.heap.size V3 X2 := by rw [← hX2]; exact hb2.alloc hb2.size _
              have HQ2 : Hid (Own2 X2 g2 25 tg an) := by show Own2 _ _ _ _ _; rw [← hX2, ← hg2]; exact Own2.new _ _ _ _
              have HP2 := Lib.hid (HOW4.out.below hb32)
              have HB2 := Lib.hid (below_step HB4.out hb32)
              clear hb2 hb32 HB4 HOW4 hrun HB
              obtain ⟨cap2, W3, B2⟩ := bytes_of s (by omega) X2
              have hrun2 := B2.run
              have hcap2 := B2.le
              have hcapm2 := B2.max
              have HBB2 := Lib.hid B2
              clear B2
              go_wp2_with fail
              refine (take_txt HBB2.out (Below.refl _ _) (by omega) (byt s) rfl).mono ?_
              rintro e W4 ⟨t3, p3, ht3, hp3, rfl, hb4⟩
              rw [HTK2.out] at ht3 hp3 ⊢
              obtain rfl : tg = t3 := (byt_inj ht3).symm
              obtain rfl : an = p3 := (byt_inj hp3).symm
              clear ht3 hp3 HTK2
              obtain ⟨X4, hX4⟩ : ∃ X, W4.alloc (.cells #[.string tg, .string an] 25) = X := ⟨_, rfl⟩
              obtain ⟨g4, hg4⟩ : ∃ g, W4.heap.size = g := ⟨_, rfl⟩
              have hb24 : Below X2.heap.size X2 X4 := by rw [← hX4]; exact hb4.alloc hb4.size _
              have HR4 : Hid (Own2 X4 g4 25 tg an) := by show Own2 _ _ _ _ _; rw [← hX4, ← hg4]; exact Own2.new _ _ _ _
              have HQ4 := Lib.hid (HQ2.out.below hb24)
              have HP4 := Lib.hid (HP2.out.below hb24)
              have HB6 := Lib.hid (below_step HB2.out hb24)
              have c0 := HP4.out.c0
              have c1 := HP4.out.c1
              have d0 := HQ4.out.c0
              have d1 := HQ4.out.c1
              have e0 := HR4.out.c0
              have e1 := HR4.out.c1
              clear hb4 hb24 HB2 HQ2 HP2 hrun2 HBB2 hX2 hg2
              go_wp2_with fail
              refine (wakes_at HB6.out).mono ?_
              rintro e W10 ⟨rfl, hb10⟩
              have HB10 := Lib.hid hb10
              clear hb10
              go_wp2_with fail
              go_ret
              exact ⟨rfl, HB10.out⟩

/-! ### THE ROW's STEP: WRITTEN OUT: LEAVE IT -/
set_option maxRecDepth 100000 in
theorem lifted (os : Os) (started : os.Started) (H : Type) (enc : TypeId × Value → H) :
    ReturnsInHanded {} Try.checked os 6 .any (Rows.propsBackSpec.pre6 enc Try.prog Try.f6 Rows.propsBackRow.domain false) (Rows.propsBackSpec.post enc Try.prog Try.f6 false true false false) := by
  refine returnsInHanded_of_change (C := Try.checked) own started (by kernel_rfl) Try.func6
    (ChangeSpec.witness6 (enc := enc) (C := Try.checked) false ⟨#[], #[.int .i64 0, .int .i64 0, .bool false, .string ByteArray.empty], []⟩ 8 (by kernel_rfl) (by kernel_rfl) (by kernel_rfl) (by kernel_rfl)) ?_
  intro W base args ds gs before hval0 hW hcnd _
  have hval : ∀ (j : Nat) t v, Try.f6.params[j]? = some t → args[j]? = some v → Value.okWide Try.prog W .any base t v := hval0
  have hW' := hW
  obtain ⟨p, q, hA0, hV, rfl, hfz, hnd⟩ := hW
  have hA : DataW.TrodAll enc Try.prog W 0 (fun _ => true) true Try.f6.params.toList args.toList ds p := hA0
  rw [Try.params6] at hA hval
  obtain ⟨v0, vs0, d0, ds0, p0, q0, hargs, rfl, rfl, h0, r0⟩ := trodAll_cons hA
  obtain ⟨v1, vs1, d1, ds1, p1, q1, rfl, rfl, rfl, h1, r1⟩ := trodAll_cons r0
  obtain ⟨v2, vs2, d2, ds2, p2, q2, rfl, rfl, rfl, h2, r2⟩ := trodAll_cons r1
  obtain ⟨v3, vs3, d3, ds3, p3, q3, rfl, rfl, rfl, h3, r3⟩ := trodAll_cons r2
  obtain ⟨rfl, rfl, rfl⟩ := trodAll_nil r3
  obtain rfl : args = #[v0, v1, v2, v3] := by cases args; simp_all
  obtain ⟨rfl, rfl⟩ := trodVars_none hV
  obtain ⟨a0, rfl, rfl, rfl, w0⟩ := open_int Try.underlying3 (hval 0 3 v0 rfl rfl) h0
  obtain ⟨a1, rfl, rfl, rfl, w1⟩ := open_int Try.underlying3 (hval 1 3 v1 rfl rfl) h1
  obtain ⟨a2, rfl, rfl, rfl⟩ := open_bool Try.underlying4 (hval 2 4 v2 rfl rfl) h2
  obtain ⟨a3, rfl, rfl, rfl, w3⟩ := open_string Try.underlying9 (hval 3 9 v3 rfl rfl) h3
  clear hA0 hval0
  refine (walk a0 a1 a2 a3 w0 w1 w3 W).mono fun e W' ⟨he, hg⟩ => ?_
  subst he
  exact ⟨_, rfl, _, _, _, [], [], [], hW', trodAll_mk1 (shut_bool Try.underlying4 _), (trodAll_cons_mk (shut_int Try.underlying3 w0) (trodAll_cons_mk (shut_int Try.underlying3 w1) (trodAll_cons_mk (shut_bool Try.underlying4 _) (trodAll_cons_mk (shut_string Try.underlying9 w3) trodAll_mk0)))), rfl, hg.frame _, fun h => by cases h⟩

theorem over : Rows.propsBackRow.holds Try.pinned (OpenSpec.ofChange Rows.propsBackSpec) :=
  OpenClaim.holds_of_wide 6 Try.f6 rfl rfl rfl rfl rfl rfl rfl ⟨rfl, rfl, rfl, rfl, rfl⟩ rfl rfl rfl rfl rfl (by kernel_rfl) Try.func6 (by kernel_rfl)
    (of_decide_eq_true (by kernel_rfl)) (by unfold Func.isWrapper; first | (rw [if_pos (by decide +kernel)]; kernel_rfl) | (rw [if_neg (by decide +kernel)]; exact ⟨rfl, rfl⟩))
    (fun os started H enc _ => lifted os started H enc)

/-- ████ THE STATEMENT ████ -/
theorem proved : Rows.PropsBackSaid :=
  over
#print axioms proved
end Go.Proofs.Ytpmikhhnnjhiaaa.propsBack
