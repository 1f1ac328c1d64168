/-
  Proved: the law 'scholium/scholiumlaw04.PlainWords' returns true for every input, and every argument reads as it did before. No conditions.
-/
import Derived.Test.YtliifflaadmofaaRows
import Derived.Test.YtliifflaadmofaaPlWords
import Derived.Test.YtliifflaadmofaaKeep
import Derived.Test.YtliifflaadmofaaTexts
import Derived.WalkKit
import Derived.ProofKit
import Derived.OpenShut
import Derived.ShutString
import Derived.ChangeOld
import Derived.Below
namespace Go.Proofs.Ytliifflaadmofaa.plainWords
open Go.ChangeShapes Go.WideShapes Go.ChangeAt Go.RowKit
open Go.ChangeMaps (open_string shut_string)
set_option linter.unusedVariables false

theorem own : ownKnob Try.prog.godebug = none := by kernel_rfl
theorem laidOut : laidOutB Try.prog = true := by kernel_rfl

/-- A slice of integers that came in. -/
def IsRow (k : IntKind) (w : World) (a : Option Addr) (len cap : Nat) (zs : List Int) : Prop :=
  (a = none ∧ len = 0 ∧ cap = 0 ∧ zs = []) ∨
  ∃ x, a = some x ∧ len ≤ cap ∧ cap ≤ maxLen ∧ zs.length = cap ∧ (∀ i, i < zs.length → w.cell? (x.add i) = some (.int k (zs.getD i 0))) ∧ ∀ n ∈ zs, (Lit.int k n).wf = true

set_option maxHeartbeats 8000000 in
set_option maxRecDepth 100000 in
theorem walk (a0 : Option Addr) (len0 cap0 : Nat) (z0 : List ByteArray) (a1 : ByteArray) (a2 : Int) (a3 : Bool) (w : World) (w0 : IsTxs w a0 len0 cap0 z0) (w1 : a1.size ≤ maxLen) (w2 : (Lit.int .i64 a2).wf = true) :
    Calls Try.prog 3 #[.slice a0 len0 cap0, .string a1, .int .i64 a2, .bool a3] w fun e w' => e = .returned (.bool true) ∧ Below w.heap.size w w' := by
  have hb2 := bounds_i64 w2
  have HT := Lib.hid w0
  have hlc : len0 ≤ cap0 := w0.2.2.2.1
  have hcm : cap0 ≤ 9223372036854775807 := w0.2.2.2.2.1
  clear w0 w2
  go_enter Try.func3, Try.ntmps3
  go_wp2_with fail
  go_loopw [9, 10] (fun s i W => ∃ (k : Nat) (u : ByteArray), k ≤ 5 ∧ k ≤ len0 ∧ s = .string u ∧ i = .int .i64 (k : Int) ∧ u.size ≤ 1 + 10 * k ∧ Hid (Wordy (byt u) ∧ Below w.heap.size w W)) (fun _ i _ => 5 - (intOf i).toNat)
  case atStart => exact ⟨0, ⟨#[119]⟩, by omega, by omega, rfl, rfl, by decide, wordy_w, Below.refl _ _⟩
  case round =>
    obtain ⟨k, u, hk5, hkl, rfl, rfl, hus, HK⟩ := hrel
    obtain ⟨V, hV⟩ : ∃ V, V = wr := ⟨_, rfl⟩
    subst hV
    by_cases hlt : k < 5 ∧ k < len0
    · obtain ⟨hk1, hk2⟩ := hlt
      obtain ⟨b, off, rfl, hc⟩ := HT.out.at_ (by omega)
      obtain ⟨s, hs, hcell0⟩ := hc k hk2
      have hcell := cell_keep HK.out.2 hcell0
      have d1 : (k : Int) < (len0 : Int) := by omega
      have d2 : (k : Int) < 5 := by omega
      have HKB := Lib.hid HK.out.2
      clear hc hcell0
      go_wp2_with fail
      refine (text_any s 8 _ (by omega) hs).mono ?_
      rintro e w' ⟨t, _, ht, rfl, rfl⟩
      obtain ⟨cap, W1, B⟩ := bytes_of t (by omega) V
      have hrun := B.run
      have HB := Lib.hid B
      clear B
      go_wp2_with fail
      clear hrun
      have HR : Hid (∀ q, q < t.size → ∀ W, Below W1.heap.size W1 W → W.cell? ⟨V.heap.size, q, none⟩ = some (.int .u8 ((byt t).getD q 0)) ∧ 0 ≤ (byt t).getD q 0 ∧ (byt t).getD q 0 < 256) := by
        intro q hq W hW
        have hl : (byt t).length = t.size := byt_len t
        obtain ⟨b, off, e, hc⟩ := (HB.out.rd.below hW).addr (by rw [hl]; omega)
        injection e with e
        injection e with e1 e2
        subst e1 e2
        have := hc q (by rw [hl]; exact hq)
        rw [Nat.zero_add] at this
        exact ⟨this, (byt_byte t).at_ (by rw [hl]; exact hq)⟩
      have hct := HB.out.le
      have hcx := HB.out.max
      have HBW := Lib.hid HB.out.below
      clear HB
      go_loopw [11, 32] (fun s i W => ∃ (q : Nat) (p : ByteArray), q ≤ t.size ∧ s = .string p ∧ i = .int .i64 (q : Int) ∧ p.size ≤ 1 + q ∧ Hid ((∀ z ∈ byt p, Aln z) ∧ 0 < (byt p).length ∧ Below W1.heap.size W1 W)) (fun _ i _ => t.size - (intOf i).toNat)
      case atStart => exact ⟨0, ⟨#[120]⟩, by omega, rfl, rfl, by decide, (by intro z hz; simp [byt] at hz; subst hz; left; omega), by decide, Below.refl _ _⟩
      case round =>
        obtain ⟨q, p, hq, rfl, rfl, hps, HP⟩ := hrel
        by_cases hqt : q < t.size
        · obtain ⟨hcq, hz1, hz2⟩ := HR.out q hqt wr HP.out.2.2
          have dq : (q : Int) < (t.size : Int) := by omega
          generalize (byt t).getD q 0 = z at *
          have hcv := run_string_rd (wr.alloc (.cells #[.int .u8 z] 5)) (some ⟨wr.heap.size, 0, none⟩) 1 1 [z] rfl (RdB.new rfl (cells_at [z]))
          have hbz : byt (strOfNums [z]) = [z] := byt_strOfNums _ (by intro y hy; simp at hy; omega)
          generalize strOfNums [z] = r at *
          have hrs : r.size ≤ 1 := by have := byt_len r; rw [hbz] at this; simp at this; omega
          obtain ⟨p2, hp2⟩ : ∃ x, p ++ r = x := ⟨_, rfl⟩
          have hb2' : byt p2 = byt p ++ [z] := by rw [← hp2, byt_append, hbz]
          have hp2s : p2.size ≤ 1 + (q + 1) := by rw [← hp2, ByteArray.size_append]; omega
          have HP2 := Lib.hid hb2'
          clear hb2' hbz
          have ways : z < 48 ∨ (48 ≤ z ∧ z ≤ 57) ∨ (58 ≤ z ∧ z < 97) ∨ (97 ≤ z ∧ z ≤ 122) ∨ 123 ≤ z := by omega
          rcases ways with h | ⟨h, h'⟩ | ⟨h, h'⟩ | ⟨h, h'⟩ | h
          · have e1 : decide (97 ≤ z) = false := decide_eq_false (by omega)
            have e2 : decide (48 ≤ z) = false := decide_eq_false (by omega)
            go_wp2_with fail
            go_roundw
            case rel => exact ⟨q + 1, p, by omega, rfl, by go_num, by omega, HP.out⟩
            case measure => simp [intOf]; omega
          · have e1 : decide (97 ≤ z) = false := decide_eq_false (by omega)
            go_wp2_with fail
            go_roundw
            case rel => exact ⟨q + 1, p2, by omega, rfl, by go_num, hp2s, (by rw [HP2.out]; intro y hy; rcases List.mem_append.1 hy with g | g; exact HP.out.1 y g; simp at g; subst g; right; exact ⟨h, h'⟩), (by rw [HP2.out]; simp), HP.out.2.2.alloc HP.out.2.2.size _⟩
            case measure => simp [intOf]; omega
          · have e1 : decide (97 ≤ z) = false := decide_eq_false (by omega)
            have e2 : 48 ≤ z := by omega
            have e3 : decide (z ≤ 57) = false := decide_eq_false (by omega)
            go_wp2_with fail
            go_roundw
            case rel => exact ⟨q + 1, p, by omega, rfl, by go_num, by omega, HP.out⟩
            case measure => simp [intOf]; omega
          · go_wp2_with fail
            go_roundw
            case rel => exact ⟨q + 1, p2, by omega, rfl, by go_num, hp2s, (by rw [HP2.out]; intro y hy; rcases List.mem_append.1 hy with g | g; exact HP.out.1 y g; simp at g; subst g; left; exact ⟨h, h'⟩), (by rw [HP2.out]; simp), HP.out.2.2.alloc HP.out.2.2.size _⟩
            case measure => simp [intOf]; omega
          · have e1 : 97 ≤ z := by omega
            have e2 : 48 ≤ z := by omega
            have e3 : decide (z ≤ 57) = false := decide_eq_false (by omega)
            have e4 : decide (z ≤ 122) = false := decide_eq_false (by omega)
            go_wp2_with fail
            go_roundw
            case rel => exact ⟨q + 1, p, by omega, rfl, by go_num, by omega, HP.out⟩
            case measure => simp [intOf]; omega
        · obtain rfl : q = t.size := by omega
          obtain ⟨p3, hp3⟩ : ∃ x, (⟨#[32]⟩ : ByteArray) ++ p = x := ⟨_, rfl⟩
          obtain ⟨u3, hu3⟩ : ∃ x, u ++ p3 = x := ⟨_, rfl⟩
          have hp3s : p3.size ≤ 10 := by rw [← hp3, ByteArray.size_append]; show 1 + p.size ≤ 10; omega
          have hu3s : u3.size ≤ 1 + 10 * (k + 1) := by rw [← hu3, ByteArray.size_append]; omega
          have HU3 : Hid (Wordy (byt u3)) := by
            show Wordy (byt u3)
            rw [← hu3, byt_append, ← hp3, byt_append]
            exact wordy_more HK.out.1 HP.out.1 HP.out.2.1
          have HB3 := Lib.hid (below_step HKB.out (below_step HBW.out HP.out.2.2))
          go_wp2_with fail
          go_roundw
          case rel => exact ⟨k + 1, u3, by omega, by omega, rfl, by go_num, hu3s, HU3.out, HB3.out⟩
          case measure => simp [intOf]; omega
    · go_upto_region 3 with fail
      go_cut [22] (fun s W => s = .bool false ∧ W = V)
      case first =>
        by_cases hkl2 : k < len0
        · have d1 : (k : Int) < (len0 : Int) := by omega
          have d2 : decide ((k : Int) < 5) = false := decide_eq_false (by omega)
          go_wp2_with fail
          go_meet
          exact ⟨rfl, rfl⟩
        · have d1 : decide ((k : Int) < (len0 : Int)) = false := decide_eq_false (by omega)
          have d1' : decide (k < len0) = false := decide_eq_false (by omega)
          go_wp2_with fail
          go_meet
          exact ⟨rfl, rfl⟩
      case rest =>
        obtain ⟨rfl, rfl⟩ := hcut
        clear hlt
        go_wp2_with fail
        refine (valid_txt HK.out.2 (by omega) a3 (byt u) rfl true (wordy_valid HK.out.1)).mono ?_
        rintro e X1 ⟨rfl, hb1⟩
        have HX1 := Lib.hid hb1
        clear hb1
        go_wp2_with fail
        refine (text_any a1 10 X1 (by omega) w1).mono ?_
        rintro e w' ⟨tl0, _, htl0, rfl, rfl⟩
        go_wp2_with fail
        refine (within_nat a2 6 _ (by omega) (by omega) (by omega)).mono ?_
        rintro e w' ⟨m, hm, rfl, rfl⟩
        obtain ⟨st, hst, hss, hway⟩ := stops_at m hm
        have hcell : (X1.alloc (.cells stops6 9)).cell? ⟨X1.heap.size, m, none⟩ = some (.string st) := by rw [World.cell?_alloc_mark]; exact hst
        simp only [stops6] at hcell
        have dm : (m : Int) < 6 := by omega
        have HX2 := Lib.hid (HX1.out.alloc HX1.out.size (.cells stops6 9))
        simp only [stops6] at HX2
        clear hst
        go_upto_region 17 with fail
        clear hcell
        generalize X1.alloc (.cells _ 9) = X2 at *
        rcases hway with ⟨h1, h2⟩ | ⟨h1, h2⟩ | ⟨h1, h2, h3⟩
        · have hg : Good a3 (byt st ++ byt ⟨#[]⟩) := by rw [h2]; exact good_colon_end a3
          clear h2
          go_upto_region 19 with fail
          obtain ⟨tl, htl⟩ : ∃ x : ByteArray, x = ⟨#[]⟩ := ⟨_, rfl⟩
          have htls : tl.size ≤ 10 := by rw [htl]; decide
          rw [← htl] at hg ⊢
          have HG := Lib.hid hg
          clear hg htl h1
          by_cases hf : a3 = true ∧ (a2.tmod 2 == 1) = true
          · obtain ⟨rfl, hmod⟩ := hf
            go_wp2_with fail
            refine (within_nat a2 5 _ (by omega) (by omega) (by omega)).mono ?_
            rintro e w' ⟨m2, hm2, rfl, rfl⟩
            obtain ⟨st2, hst2, hss2, hg2⟩ := flows_at m2 hm2
            have hcell2 : (X2.alloc (.cells stops5 9)).cell? ⟨X2.heap.size, m2, none⟩ = some (.string st2) := by rw [World.cell?_alloc_mark]; exact hst2
            simp only [stops5] at hcell2
            have dm2 : (m2 : Int) < 5 := by omega
            have HXX := Lib.hid (HX2.out.alloc HX2.out.size (.cells stops5 9))
            simp only [stops5] at HXX
            have HG2 := Lib.hid hg2
            clear hg2 hst2 hmod
            go_upto_region 21 with fail
            clear hcell2
            generalize X2.alloc (.cells _ 9) = X3 at *
            obtain ⟨c1, hc1⟩ : ∃ x, u ++ st2 = x := ⟨_, rfl⟩
            obtain ⟨c2, hc2⟩ : ∃ x, c1 ++ tl = x := ⟨_, rfl⟩
            have HC2 : Hid (byt c2 = byt u ++ (byt st2 ++ byt tl)) := by show byt c2 = _; rw [← hc2, byt_append, ← hc1, byt_append, List.append_assoc]
            have hc1s : c1.size ≤ 60 := by rw [← hc1, ByteArray.size_append]; omega
            have hc2s : c2.size ≤ 70 := by rw [← hc2, ByteArray.size_append]; omega
            have HLN : Hid (lenF (byt u ++ (byt st2 ++ byt tl)) true = u.size) := by show lenF _ _ = _; rw [len_words HK.out.1 (HG2.out _), byt_len]
            obtain ⟨cap4, X4, B4⟩ := bytes_of c2 (by omega) X3
            have r4 := B4.run
            have HB4 := Lib.hid B4
            clear B4
            go_wp2_with fail
            refine (length_txt HB4.out HXX.out true _ HC2.out u.size HLN.out).mono ?_
            rintro e X5 ⟨rfl, hb5⟩
            have HX5 := Lib.hid hb5
            clear hb5 r4
            go_wp2_with fail
            refine (wakes_any X5).mono ?_
            rintro e X6 ⟨rfl, hb6⟩
            have HX6 := Lib.hid (below_step HX5.out hb6)
            clear hb6
            go_wp2_with fail
            go_ret
            exact ⟨rfl, HX6.out⟩
          · have hno : (a3 && (a2.tmod 2 == 1)) = false := by
              rw [Bool.eq_false_iff]
              intro h
              rw [Bool.and_eq_true] at h
              exact hf h
            have HXX := HX2
            cases a3
            · clear hf hno
              go_upto_region 21 with fail
              obtain ⟨c1, hc1⟩ : ∃ x, u ++ st = x := ⟨_, rfl⟩
              obtain ⟨c2, hc2⟩ : ∃ x, c1 ++ tl = x := ⟨_, rfl⟩
              have HC2 : Hid (byt c2 = byt u ++ (byt st ++ byt tl)) := by show byt c2 = _; rw [← hc2, byt_append, ← hc1, byt_append, List.append_assoc]
              have hc1s : c1.size ≤ 60 := by rw [← hc1, ByteArray.size_append]; omega
              have hc2s : c2.size ≤ 70 := by rw [← hc2, ByteArray.size_append]; omega
              have HLN : Hid (lenF (byt u ++ (byt st ++ byt tl)) false = u.size) := by show lenF _ _ = _; rw [len_words HK.out.1 HG.out, byt_len]
              obtain ⟨cap4, X4, B4⟩ := bytes_of c2 (by omega) X2
              have r4 := B4.run
              have HB4 := Lib.hid B4
              clear B4
              go_wp2_with fail
              refine (length_txt HB4.out HXX.out false _ HC2.out u.size HLN.out).mono ?_
              rintro e X5 ⟨rfl, hb5⟩
              have HX5 := Lib.hid hb5
              clear hb5 r4
              go_wp2_with fail
              refine (wakes_any X5).mono ?_
              rintro e X6 ⟨rfl, hb6⟩
              have HX6 := Lib.hid (below_step HX5.out hb6)
              clear hb6
              go_wp2_with fail
              go_ret
              exact ⟨rfl, HX6.out⟩
            · have hmod : (a2.tmod 2 == 1) = false := by simpa using hno
              clear hf hno
              go_upto_region 21 with fail
              obtain ⟨c1, hc1⟩ : ∃ x, u ++ st = x := ⟨_, rfl⟩
              obtain ⟨c2, hc2⟩ : ∃ x, c1 ++ tl = x := ⟨_, rfl⟩
              have HC2 : Hid (byt c2 = byt u ++ (byt st ++ byt tl)) := by show byt c2 = _; rw [← hc2, byt_append, ← hc1, byt_append, List.append_assoc]
              have hc1s : c1.size ≤ 60 := by rw [← hc1, ByteArray.size_append]; omega
              have hc2s : c2.size ≤ 70 := by rw [← hc2, ByteArray.size_append]; omega
              have HLN : Hid (lenF (byt u ++ (byt st ++ byt tl)) true = u.size) := by show lenF _ _ = _; rw [len_words HK.out.1 HG.out, byt_len]
              obtain ⟨cap4, X4, B4⟩ := bytes_of c2 (by omega) X2
              have r4 := B4.run
              have HB4 := Lib.hid B4
              clear B4
              go_wp2_with fail
              refine (length_txt HB4.out HXX.out true _ HC2.out u.size HLN.out).mono ?_
              rintro e X5 ⟨rfl, hb5⟩
              have HX5 := Lib.hid hb5
              clear hb5 r4
              go_wp2_with fail
              refine (wakes_any X5).mono ?_
              rintro e X6 ⟨rfl, hb6⟩
              have HX6 := Lib.hid (below_step HX5.out hb6)
              clear hb6
              go_wp2_with fail
              go_ret
              exact ⟨rfl, HX6.out⟩
        · have hg : Good a3 (byt st ++ byt ⟨#[]⟩) := by rw [h2]; exact good_blanks a3
          clear h2
          go_upto_region 19 with fail
          obtain ⟨tl, htl⟩ : ∃ x : ByteArray, x = ⟨#[]⟩ := ⟨_, rfl⟩
          have htls : tl.size ≤ 10 := by rw [htl]; decide
          rw [← htl] at hg ⊢
          have HG := Lib.hid hg
          clear hg htl h1
          by_cases hf : a3 = true ∧ (a2.tmod 2 == 1) = true
          · obtain ⟨rfl, hmod⟩ := hf
            go_wp2_with fail
            refine (within_nat a2 5 _ (by omega) (by omega) (by omega)).mono ?_
            rintro e w' ⟨m2, hm2, rfl, rfl⟩
            obtain ⟨st2, hst2, hss2, hg2⟩ := flows_at m2 hm2
            have hcell2 : (X2.alloc (.cells stops5 9)).cell? ⟨X2.heap.size, m2, none⟩ = some (.string st2) := by rw [World.cell?_alloc_mark]; exact hst2
            simp only [stops5] at hcell2
            have dm2 : (m2 : Int) < 5 := by omega
            have HXX := Lib.hid (HX2.out.alloc HX2.out.size (.cells stops5 9))
            simp only [stops5] at HXX
            have HG2 := Lib.hid hg2
            clear hg2 hst2 hmod
            go_upto_region 21 with fail
            clear hcell2
            generalize X2.alloc (.cells _ 9) = X3 at *
            obtain ⟨c1, hc1⟩ : ∃ x, u ++ st2 = x := ⟨_, rfl⟩
            obtain ⟨c2, hc2⟩ : ∃ x, c1 ++ tl = x := ⟨_, rfl⟩
            have HC2 : Hid (byt c2 = byt u ++ (byt st2 ++ byt tl)) := by show byt c2 = _; rw [← hc2, byt_append, ← hc1, byt_append, List.append_assoc]
            have hc1s : c1.size ≤ 60 := by rw [← hc1, ByteArray.size_append]; omega
            have hc2s : c2.size ≤ 70 := by rw [← hc2, ByteArray.size_append]; omega
            have HLN : Hid (lenF (byt u ++ (byt st2 ++ byt tl)) true = u.size) := by show lenF _ _ = _; rw [len_words HK.out.1 (HG2.out _), byt_len]
            obtain ⟨cap4, X4, B4⟩ := bytes_of c2 (by omega) X3
            have r4 := B4.run
            have HB4 := Lib.hid B4
            clear B4
            go_wp2_with fail
            refine (length_txt HB4.out HXX.out true _ HC2.out u.size HLN.out).mono ?_
            rintro e X5 ⟨rfl, hb5⟩
            have HX5 := Lib.hid hb5
            clear hb5 r4
            go_wp2_with fail
            refine (wakes_any X5).mono ?_
            rintro e X6 ⟨rfl, hb6⟩
            have HX6 := Lib.hid (below_step HX5.out hb6)
            clear hb6
            go_wp2_with fail
            go_ret
            exact ⟨rfl, HX6.out⟩
          · have hno : (a3 && (a2.tmod 2 == 1)) = false := by
              rw [Bool.eq_false_iff]
              intro h
              rw [Bool.and_eq_true] at h
              exact hf h
            have HXX := HX2
            cases a3
            · clear hf hno
              go_upto_region 21 with fail
              obtain ⟨c1, hc1⟩ : ∃ x, u ++ st = x := ⟨_, rfl⟩
              obtain ⟨c2, hc2⟩ : ∃ x, c1 ++ tl = x := ⟨_, rfl⟩
              have HC2 : Hid (byt c2 = byt u ++ (byt st ++ byt tl)) := by show byt c2 = _; rw [← hc2, byt_append, ← hc1, byt_append, List.append_assoc]
              have hc1s : c1.size ≤ 60 := by rw [← hc1, ByteArray.size_append]; omega
              have hc2s : c2.size ≤ 70 := by rw [← hc2, ByteArray.size_append]; omega
              have HLN : Hid (lenF (byt u ++ (byt st ++ byt tl)) false = u.size) := by show lenF _ _ = _; rw [len_words HK.out.1 HG.out, byt_len]
              obtain ⟨cap4, X4, B4⟩ := bytes_of c2 (by omega) X2
              have r4 := B4.run
              have HB4 := Lib.hid B4
              clear B4
              go_wp2_with fail
              refine (length_txt HB4.out HXX.out false _ HC2.out u.size HLN.out).mono ?_
              rintro e X5 ⟨rfl, hb5⟩
              have HX5 := Lib.hid hb5
              clear hb5 r4
              go_wp2_with fail
              refine (wakes_any X5).mono ?_
              rintro e X6 ⟨rfl, hb6⟩
              have HX6 := Lib.hid (below_step HX5.out hb6)
              clear hb6
              go_wp2_with fail
              go_ret
              exact ⟨rfl, HX6.out⟩
            · have hmod : (a2.tmod 2 == 1) = false := by simpa using hno
              clear hf hno
              go_upto_region 21 with fail
              obtain ⟨c1, hc1⟩ : ∃ x, u ++ st = x := ⟨_, rfl⟩
              obtain ⟨c2, hc2⟩ : ∃ x, c1 ++ tl = x := ⟨_, rfl⟩
              have HC2 : Hid (byt c2 = byt u ++ (byt st ++ byt tl)) := by show byt c2 = _; rw [← hc2, byt_append, ← hc1, byt_append, List.append_assoc]
              have hc1s : c1.size ≤ 60 := by rw [← hc1, ByteArray.size_append]; omega
              have hc2s : c2.size ≤ 70 := by rw [← hc2, ByteArray.size_append]; omega
              have HLN : Hid (lenF (byt u ++ (byt st ++ byt tl)) true = u.size) := by show lenF _ _ = _; rw [len_words HK.out.1 HG.out, byt_len]
              obtain ⟨cap4, X4, B4⟩ := bytes_of c2 (by omega) X2
              have r4 := B4.run
              have HB4 := Lib.hid B4
              clear B4
              go_wp2_with fail
              refine (length_txt HB4.out HXX.out true _ HC2.out u.size HLN.out).mono ?_
              rintro e X5 ⟨rfl, hb5⟩
              have HX5 := Lib.hid hb5
              clear hb5 r4
              go_wp2_with fail
              refine (wakes_any X5).mono ?_
              rintro e X6 ⟨rfl, hb6⟩
              have HX6 := Lib.hid (below_step HX5.out hb6)
              clear hb6
              go_wp2_with fail
              go_ret
              exact ⟨rfl, HX6.out⟩
        · have hg := h3 a3 (byt tl0)
          have q1 : (st.toList == [58]) = false := by simpa using h1
          have q2 : (st.toList == [32, 32]) = false := by simpa using h2
          have HG := Lib.hid hg
          clear h3 hg
          go_upto_region 19 with fail
          clear h1 h2 q1 q2
          obtain ⟨tl, htl⟩ : ∃ x : ByteArray, x = tl0 := ⟨_, rfl⟩
          subst htl
          have htls : tl.size ≤ 10 := htl0
          by_cases hf : a3 = true ∧ (a2.tmod 2 == 1) = true
          · obtain ⟨rfl, hmod⟩ := hf
            go_wp2_with fail
            refine (within_nat a2 5 _ (by omega) (by omega) (by omega)).mono ?_
            rintro e w' ⟨m2, hm2, rfl, rfl⟩
            obtain ⟨st2, hst2, hss2, hg2⟩ := flows_at m2 hm2
            have hcell2 : (X2.alloc (.cells stops5 9)).cell? ⟨X2.heap.size, m2, none⟩ = some (.string st2) := by rw [World.cell?_alloc_mark]; exact hst2
            simp only [stops5] at hcell2
            have dm2 : (m2 : Int) < 5 := by omega
            have HXX := Lib.hid (HX2.out.alloc HX2.out.size (.cells stops5 9))
            simp only [stops5] at HXX
            have HG2 := Lib.hid hg2
            clear hg2 hst2 hmod
            go_upto_region 21 with fail
            clear hcell2
            generalize X2.alloc (.cells _ 9) = X3 at *
            obtain ⟨c1, hc1⟩ : ∃ x, u ++ st2 = x := ⟨_, rfl⟩
            obtain ⟨c2, hc2⟩ : ∃ x, c1 ++ tl = x := ⟨_, rfl⟩
            have HC2 : Hid (byt c2 = byt u ++ (byt st2 ++ byt tl)) := by show byt c2 = _; rw [← hc2, byt_append, ← hc1, byt_append, List.append_assoc]
            have hc1s : c1.size ≤ 60 := by rw [← hc1, ByteArray.size_append]; omega
            have hc2s : c2.size ≤ 70 := by rw [← hc2, ByteArray.size_append]; omega
            have HLN : Hid (lenF (byt u ++ (byt st2 ++ byt tl)) true = u.size) := by show lenF _ _ = _; rw [len_words HK.out.1 (HG2.out _), byt_len]
            obtain ⟨cap4, X4, B4⟩ := bytes_of c2 (by omega) X3
            have r4 := B4.run
            have HB4 := Lib.hid B4
            clear B4
            go_wp2_with fail
            refine (length_txt HB4.out HXX.out true _ HC2.out u.size HLN.out).mono ?_
            rintro e X5 ⟨rfl, hb5⟩
            have HX5 := Lib.hid hb5
            clear hb5 r4
            go_wp2_with fail
            refine (wakes_any X5).mono ?_
            rintro e X6 ⟨rfl, hb6⟩
            have HX6 := Lib.hid (below_step HX5.out hb6)
            clear hb6
            go_wp2_with fail
            go_ret
            exact ⟨rfl, HX6.out⟩
          · have hno : (a3 && (a2.tmod 2 == 1)) = false := by
              rw [Bool.eq_false_iff]
              intro h
              rw [Bool.and_eq_true] at h
              exact hf h
            have HXX := HX2
            cases a3
            · clear hf hno
              go_upto_region 21 with fail
              obtain ⟨c1, hc1⟩ : ∃ x, u ++ st = x := ⟨_, rfl⟩
              obtain ⟨c2, hc2⟩ : ∃ x, c1 ++ tl = x := ⟨_, rfl⟩
              have HC2 : Hid (byt c2 = byt u ++ (byt st ++ byt tl)) := by show byt c2 = _; rw [← hc2, byt_append, ← hc1, byt_append, List.append_assoc]
              have hc1s : c1.size ≤ 60 := by rw [← hc1, ByteArray.size_append]; omega
              have hc2s : c2.size ≤ 70 := by rw [← hc2, ByteArray.size_append]; omega
              have HLN : Hid (lenF (byt u ++ (byt st ++ byt tl)) false = u.size) := by show lenF _ _ = _; rw [len_words HK.out.1 HG.out, byt_len]
              obtain ⟨cap4, X4, B4⟩ := bytes_of c2 (by omega) X2
              have r4 := B4.run
              have HB4 := Lib.hid B4
              clear B4
              go_wp2_with fail
              refine (length_txt HB4.out HXX.out false _ HC2.out u.size HLN.out).mono ?_
              rintro e X5 ⟨rfl, hb5⟩
              have HX5 := Lib.hid hb5
              clear hb5 r4
              go_wp2_with fail
              refine (wakes_any X5).mono ?_
              rintro e X6 ⟨rfl, hb6⟩
              have HX6 := Lib.hid (below_step HX5.out hb6)
              clear hb6
              go_wp2_with fail
              go_ret
              exact ⟨rfl, HX6.out⟩
            · have hmod : (a2.tmod 2 == 1) = false := by simpa using hno
              clear hf hno
              go_upto_region 21 with fail
              obtain ⟨c1, hc1⟩ : ∃ x, u ++ st = x := ⟨_, rfl⟩
              obtain ⟨c2, hc2⟩ : ∃ x, c1 ++ tl = x := ⟨_, rfl⟩
              have HC2 : Hid (byt c2 = byt u ++ (byt st ++ byt tl)) := by show byt c2 = _; rw [← hc2, byt_append, ← hc1, byt_append, List.append_assoc]
              have hc1s : c1.size ≤ 60 := by rw [← hc1, ByteArray.size_append]; omega
              have hc2s : c2.size ≤ 70 := by rw [← hc2, ByteArray.size_append]; omega
              have HLN : Hid (lenF (byt u ++ (byt st ++ byt tl)) true = u.size) := by show lenF _ _ = _; rw [len_words HK.out.1 HG.out, byt_len]
              obtain ⟨cap4, X4, B4⟩ := bytes_of c2 (by omega) X2
              have r4 := B4.run
              have HB4 := Lib.hid B4
              clear B4
              go_wp2_with fail
              refine (length_txt HB4.out HXX.out true _ HC2.out u.size HLN.out).mono ?_
              rintro e X5 ⟨rfl, hb5⟩
              have HX5 := Lib.hid hb5
              clear hb5 r4
              go_wp2_with fail
              refine (wakes_any X5).mono ?_
              rintro e X6 ⟨rfl, hb6⟩
              have HX6 := Lib.hid (below_step HX5.out hb6)
              clear hb6
              go_wp2_with fail
              go_ret
              exact ⟨rfl, HX6.out⟩


set_option maxRecDepth 100000 in
theorem lifted (os : Os) (started : os.Started) (H : Type) (enc : TypeId × Value → H) :
    ReturnsInHanded {} Try.checked os 3 .any (Rows.plainWordsSpec.pre6 enc Try.prog Try.f3 Rows.plainWordsRow.domain false) (Rows.plainWordsSpec.post enc Try.prog Try.f3 false true false false) := by
  refine returnsInHanded_of_change (C := Try.checked) own started (by kernel_rfl) Try.func3
    (ChangeSpec.witness6 (enc := enc) (C := Try.checked) false ⟨#[], #[.slice none 0 0, .string ByteArray.empty, .int .i64 0, .bool false], []⟩ 8 (by kernel_rfl) (by kernel_rfl) (by kernel_rfl) (by kernel_rfl)) ?_
  intro W base args ds gs before hval0 hW hcnd _
  have hval : ∀ (j : Nat) t v, Try.f3.params[j]? = some t → args[j]? = some v → Value.okWide Try.prog W .any base t v := hval0
  have hW' := hW
  obtain ⟨p, q, hA0, hV, rfl, hfz, hnd⟩ := hW
  have hA : DataW.TrodAll enc Try.prog W 0 (fun _ => true) true Try.f3.params.toList args.toList ds p := hA0
  rw [Try.params3] at hA hval
  obtain ⟨v0, vs0, d0, ds0, p0, q0, hargs, rfl, rfl, h0, r0⟩ := trodAll_cons hA
  obtain ⟨v1, vs1, d1, ds1, p1, q1, rfl, rfl, rfl, h1, r1⟩ := trodAll_cons r0
  obtain ⟨v2, vs2, d2, ds2, p2, q2, rfl, rfl, rfl, h2, r2⟩ := trodAll_cons r1
  obtain ⟨v3, vs3, d3, ds3, p3, q3, rfl, rfl, rfl, h3, r3⟩ := trodAll_cons r2
  obtain ⟨rfl, rfl, rfl⟩ := trodAll_nil r3
  obtain rfl : args = #[v0, v1, v2, v3] := by cases args; simp_all
  obtain ⟨rfl, rfl⟩ := trodVars_none hV
  obtain ⟨a0, len0, cap0, rfl⟩ := okWide_slice Try.underlying22 (hval 0 22 v0 rfl rfl)
  have k0 := h0
  have lt0 : ∀ x ∈ p0, x.block < W.heap.size := by obtain ⟨m, hm⟩ := k0; exact DataW.trod_lt m _ _ _ hm
  obtain ⟨z0, w0⟩ := open_texts h0
  obtain ⟨a1, rfl, rfl, rfl, w1⟩ := open_string Try.underlying9 (hval 1 9 v1 rfl rfl) h1
  obtain ⟨a2, rfl, rfl, rfl, w2⟩ := open_int Try.underlying3 (hval 2 3 v2 rfl rfl) h2
  obtain ⟨a3, rfl, rfl, rfl⟩ := open_bool Try.underlying4 (hval 3 4 v3 rfl rfl) h3
  clear hA0 hval0
  refine (walk a0 len0 cap0 z0 a1 a2 a3 W w0 w1 w2).mono fun e W' ⟨he, bel⟩ => ?_
  subst he
  exact ⟨_, rfl, _, _, _, [], _, [], hW', trodAll_mk1 (shut_bool Try.underlying4 _), (trodAll_cons_mk (Below.trod laidOut (by kernel_rfl) (of_decide_eq_true (by kernel_rfl)) k0 bel lt0) (trodAll_cons_mk (shut_string Try.underlying9 w1) (trodAll_cons_mk (shut_int Try.underlying3 w2) (trodAll_cons_mk (shut_bool Try.underlying4 _) trodAll_mk0)))), rfl, bel.frame _, fun h => by cases h⟩

theorem over : Rows.plainWordsRow.holds Try.pinned (OpenSpec.ofChange Rows.plainWordsSpec) :=
  OpenClaim.holds_of_wide 3 Try.f3 rfl rfl rfl rfl rfl rfl rfl ⟨rfl, rfl, rfl, rfl, rfl⟩ rfl rfl rfl rfl rfl (by kernel_rfl) Try.func3 (by kernel_rfl)
    (of_decide_eq_true (by kernel_rfl)) (by unfold Func.isWrapper; first | (rw [if_pos (by decide +kernel)]; kernel_rfl) | (rw [if_neg (by decide +kernel)]; exact ⟨rfl, rfl⟩))
    (fun os started H enc _ => lifted os started H enc)

theorem proved : Rows.PlainWordsSaid := over
#print axioms proved
end Go.Proofs.Ytliifflaadmofaa.plainWords
