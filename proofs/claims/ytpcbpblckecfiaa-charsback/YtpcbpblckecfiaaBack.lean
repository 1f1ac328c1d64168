/-
  Proved: the law 'scholium/scholiumlaw01.CharsBack' returns true for every input, and every argument reads as it did before. No conditions.
-/
import Derived.Test.YtpcbpblckecfiaaRows
import Derived.Test.YtpcbpblckecfiaaText
import Derived.WalkKit
import Derived.ProofKit
import Derived.OpenShut
import Derived.ShutString
namespace Go.Proofs.Ytpcbpblckecfiaa.charsBack
open Go.ChangeShapes Go.WideShapes Go.ChangeAt Go.RowKit
open Go.ChangeMaps (open_string shut_string)
set_option linter.unusedVariables false      -- a walk need not use every 'w<i>' (that an integer argument fits its kind)

theorem own : ownKnob Try.prog.godebug = none := by kernel_rfl

theorem u8_int (n : Nat) (h : n < 256) : ((UInt8.ofNat n).toNat : Int) = n := by
  rw [UInt8.toNat_ofNat']; omega
theorem enc_byt (r : Int) (h0 : 0 ≤ r) (h1 : r < 1114112) (hs : surr r = false) :
    (r < 128 ∧ byt (Utf8.encode r) = [r]) ∨ (128 ≤ r ∧ r < 2048 ∧ byt (Utf8.encode r) = [192 + r / 64, 128 + r % 64]) ∨
    (2048 ≤ r ∧ r < 65536 ∧ byt (Utf8.encode r) = [224 + r / 4096, 128 + r / 64 % 64, 128 + r % 64]) ∨
    (65536 ≤ r ∧ byt (Utf8.encode r) = [240 + r / 262144, 128 + r / 4096 % 64, 128 + r / 64 % 64, 128 + r % 64]) := by
  obtain ⟨n, rfl⟩ : ∃ n : Nat, r = n := ⟨r.toNat, by omega⟩
  have hv : Utf8.valid (n : Int) = true := by unfold Utf8.valid; unfold surr at hs; simp at hs ⊢; omega
  unfold Utf8.encode
  rw [hv]
  simp only [if_true, Int.toNat_natCast]
  by_cases g1 : n < 128
  · left
    rw [if_pos g1]
    exact ⟨by omega, by simp only [byt, List.map_cons, List.map_nil]; rw [u8_int n (by omega)]⟩
  · rw [if_neg g1]
    by_cases g2 : n < 2048
    · right; left
      rw [if_pos g2]
      refine ⟨by omega, by omega, ?_⟩
      simp only [byt, List.map_cons, List.map_nil]
      rw [u8_int _ (by omega), u8_int _ (by omega)]
      simp
    · rw [if_neg g2]
      by_cases g3 : n < 65536
      · right; right; left
        rw [if_pos g3]
        refine ⟨by omega, by omega, ?_⟩
        simp only [byt, List.map_cons, List.map_nil]
        rw [u8_int _ (by omega), u8_int _ (by omega), u8_int _ (by omega)]
        simp
      · right; right; right
        rw [if_neg g3]
        refine ⟨by omega, ?_⟩
        simp only [byt, List.map_cons, List.map_nil]
        rw [u8_int _ (by omega), u8_int _ (by omega), u8_int _ (by omega), u8_int _ (by omega)]
        simp

theorem cont_mk (x : Int) (h0 : 0 ≤ x) (h1 : x < 64) : cont (128 + x) = true := by unfold cont; simp; omega
theorem cont_mod (x : Int) (h0 : 0 ≤ x) (h1 : x < 64) : (128 + x) % 64 = x := by omega

theorem ld_2 (c : Int) (h1 : 194 ≤ c) (h2 : c ≤ 223) : ldN c = 2 ∧ ldR c = c - 192 ∧ ldL c = 128 := by
  unfold ldN ldR ldL
  repeat' split
  all_goals omega
theorem ld_3 (c : Int) (h1 : 224 ≤ c) (h2 : c ≤ 239) : ldN c = 3 ∧ ldR c = c - 224 ∧ ldL c = 2048 := by
  unfold ldN ldR ldL
  repeat' split
  all_goals omega
theorem ld_4 (c : Int) (h1 : 240 ≤ c) (h2 : c ≤ 244) : ldN c = 4 ∧ ldR c = c - 240 ∧ ldL c = 65536 := by
  unfold ldN ldR ldL
  repeat' split
  all_goals omega

/-- A rune as it is written: read again; cut short it is none. -/
theorem enc_rune (r : Int) (h0 : 0 ≤ r) (h1 : r < 1114112) (hs : surr r = false) : 1 ≤ (Utf8.encode r).size ∧ (Utf8.encode r).size ≤ 4 ∧
    runeF (byt (Utf8.encode r)) = (r, ((Utf8.encode r).size : Int), true) ∧
    ∀ k, k < (Utf8.encode r).size → 0 < k → runeF ((byt (Utf8.encode r)).take k) = (0, 1, false) := by
  have hl := byt_len (Utf8.encode r)
  rcases enc_byt r h0 h1 hs with ⟨g, e⟩ | ⟨g1, g2, e⟩ | ⟨g1, g2, e⟩ | ⟨g1, e⟩
  · rw [e] at hl ⊢
    have hz : (Utf8.encode r).size = 1 := by simpa using hl.symm
    rw [hz]
    refine ⟨by omega, by omega, by rw [runeF_ascii r [] h0 g]; rfl, fun k h1 h2 => by omega⟩
  · rw [e] at hl ⊢
    have hz : (Utf8.encode r).size = 2 := by simpa using hl.symm
    rw [hz]
    obtain ⟨l1, l2, l3⟩ := ld_2 (192 + r / 64) (by omega) (by omega)
    refine ⟨by omega, by omega, ?_, fun k h1 h2 => ?_⟩
    · rw [runeF_good _ _ (by omega) (by rw [l1]; simp) r ?_ ?_, l1]
      · rfl
      · rw [l1, l2]
        simp only [show ((2 : Int) - 1).toNat = 1 from rfl, List.take, accR, cont_mk _ (show 0 ≤ r % 64 by omega) (by omega), if_true]
        congr 1; omega
      · rw [l3, hs]; simp; omega
    · obtain rfl : k = 1 := by omega
      exact runeF_short _ _ (by rw [l1]; simp)
  · rw [e] at hl ⊢
    have hz : (Utf8.encode r).size = 3 := by simpa using hl.symm
    rw [hz]
    obtain ⟨l1, l2, l3⟩ := ld_3 (224 + r / 4096) (by omega) (by omega)
    refine ⟨by omega, by omega, ?_, fun k h1 h2 => ?_⟩
    · rw [runeF_good _ _ (by omega) (by rw [l1]; simp) r ?_ ?_, l1]
      · rfl
      · rw [l1, l2]
        simp only [show ((3 : Int) - 1).toNat = 2 from rfl, List.take, accR, cont_mk _ (show 0 ≤ r % 64 by omega) (by omega), cont_mk _ (show 0 ≤ r / 64 % 64 by omega) (by omega), if_true]
        congr 1; omega
      · rw [l3, hs]; simp; omega
    · have : k = 1 ∨ k = 2 := by omega
      rcases this with rfl | rfl <;> exact runeF_short _ _ (by rw [l1]; simp)
  · rw [e] at hl ⊢
    have hz : (Utf8.encode r).size = 4 := by simpa using hl.symm
    rw [hz]
    obtain ⟨l1, l2, l3⟩ := ld_4 (240 + r / 262144) (by omega) (by omega)
    refine ⟨by omega, by omega, ?_, fun k h1 h2 => ?_⟩
    · rw [runeF_good _ _ (by omega) (by rw [l1]; simp) r ?_ ?_, l1]
      · rfl
      · rw [l1, l2]
        simp only [show ((4 : Int) - 1).toNat = 3 from rfl, List.take, accR, cont_mk _ (show 0 ≤ r % 64 by omega) (by omega), cont_mk _ (show 0 ≤ r / 64 % 64 by omega) (by omega), cont_mk _ (show 0 ≤ r / 4096 % 64 by omega) (by omega), if_true]
        congr 1; omega
      · rw [l3, hs]; simp; omega
    · have : k = 1 ∨ k = 2 ∨ k = 3 := by omega
      rcases this with rfl | rfl | rfl <;> exact runeF_short _ _ (by rw [l1]; simp)

theorem rune_str (W0 : World) (s : ByteArray) (n cap : Nat) (W : World) (h : Bytes W0 s cap W) (hn : s.size = n) (x y : Int) (ok : Bool) (hf : runeF (byt s) = (x, y, ok)) :
    Calls Try.prog 14 #[.slice (some ⟨W0.heap.size, 0, none⟩) n cap] W fun e w' => e = .returned (.tuple #[.int .i32 x, .int .i64 y, .bool ok]) ∧ W = w' := by
  subst hn
  have := rune_any _ _ _ (byt s) W (byt_len s) h.le h.max (byt_byte s) h.rd
  rw [hf] at this
  exact this
theorem byt_extract (s : ByteArray) (k : Nat) : byt (s.extract 0 k) = (byt s).take k := by
  simp [byt, List.map_take]
theorem prt_surr (r : Int) (h : surr r = true) : prt r = false := by
  unfold prt; rw [h]; unfold surr at h; simp at h; repeat' split
  all_goals first | rfl | omega | simp

set_option maxHeartbeats 4000000 in
theorem walk (a0 : Int) (a1 : ByteArray) (a2 : Int) (w0 : (Lit.int .i64 a0).wf = true) (w1 : a1.size ≤ maxLen) (w2 : (Lit.int .i64 a2).wf = true) (w : World) :
    Calls Try.prog 3 #[.int .i64 a0, .string a1, .int .i64 a2] w fun e w' => e = .returned (.bool true) ∧ Below w.heap.size w w' := by
  have hb0 := bounds_i64 w0
  have hb2 := bounds_i64 w2
  have HW1 := Lib.hid w1
  clear w1
  have hm1 := Int.emod_nonneg a0 (show (1114112 : Int) ≠ 0 by omega)
  have hm2 := Int.emod_lt_of_pos a0 (show (0 : Int) < 1114112 by omega)
  generalize hx : a0 % 1114112 = r at *
  have HX := Lib.hid hx
  clear hx
  cases hsr : surr r
  · obtain ⟨q1, q2, q3, q4⟩ := enc_rune r hm1 hm2 hsr
    have hns : r < 55296 ∨ 57343 < r := by unfold surr at hsr; simp at hsr; omega
    generalize hen : Utf8.encode r = s at *
    have Q3 := Lib.hid q3
    have Q4 := Lib.hid q4
    clear q3 q4 hsr
    rcases hns with hns | hns
    all_goals
      go_enter Try.func3, Try.ntmps3
      go_wp2_with fail
      refine (within_any a0 1114112 _ (by omega) (by omega) (by omega)).mono ?_
      rintro e w' ⟨rfl, rfl⟩
      rw [HX.out]
      go_wp2_with fail
      refine (text_any a1 5 w (by omega) HW1.out).mono ?_
      rintro e w' ⟨t, ht, rfl, rfl⟩
      obtain ⟨c1, W1, hb1⟩ := bytes_of (s ++ t) (by rw [ByteArray.size_append]; omega) w
      have r1 := hb1.run
      have HB1 := Lib.hid hb1
      clear hb1
      go_wp2_with fail
      refine (rune_str w (s ++ t) (s.size + t.size) c1 W1 HB1.out (by rw [ByteArray.size_append]) r s.size true (by rw [byt_append]; exact runeF_append _ _ _ _ Q3.out)).mono ?_
      rintro e w' ⟨rfl, rfl⟩
      go_wp2_with fail
      refine (within_any a2 s.size _ (by omega) (by omega) (by omega)).mono ?_
      rintro e w' ⟨rfl, rfl⟩
      have hk1 := Int.emod_nonneg a2 (show (s.size : Int) ≠ 0 by omega)
      have hk2 := Int.emod_lt_of_pos a2 (show (0 : Int) < (s.size : Int) by omega)
      obtain ⟨k, hk⟩ : ∃ k : Nat, a2 % (s.size : Int) = (k : Int) := ⟨(a2 % (s.size : Int)).toNat, by omega⟩
      have hks : k < s.size := by omega
      rw [hk]
      clear hk hk1 hk2
      obtain ⟨c2, W2, hb2'⟩ := bytes_of (s.extract 0 k) (by simp [ByteArray.size_extract]; omega) W1
      have r2 := hb2'.run
      have HB2 := Lib.hid hb2'
      clear hb2'
      have hez : (s.extract 0 k).size = k := by simp [ByteArray.size_extract]; omega
      rw [hez] at r2
      have hbel : Below w.heap.size w W2 := by
        have b1 := HB1.out.below
        have b2 := HB2.out.below
        exact b1.trans (b2.mono b1.size)
      have HBEL := Lib.hid hbel
      have HEZ := Lib.hid hez
      clear hbel hez
      by_cases hk0 : 0 < k
      · have dk : (1 : Int) ≤ (k : Int) := by omega
        go_wp2_with fail
        refine (rune_str W1 (s.extract 0 k) k c2 W2 HB2.out HEZ.out 0 1 false (by rw [byt_extract]; exact Q4.out k hks hk0)).mono ?_
        rintro e w' ⟨rfl, rfl⟩
        go_wp2_with (go_at_call 13; refine (wakes_any _).mono ?_; rintro e w9 ⟨rfl, hb9⟩)
        all_goals first | (go_ret; exact ⟨rfl, HBEL.out.trans (hb9.mono HBEL.out.size)⟩) | (exfalso; omega)
      · obtain rfl : k = 0 := by omega
        have he : s.extract 0 0 = ByteArray.empty := by simp
        rw [he] at r2 HB2 HEZ
        clear he
        go_wp2_with fail
        refine (rune_str W1 ByteArray.empty 0 c2 W2 HB2.out HEZ.out 0 0 false rfl).mono ?_
        rintro e w' ⟨rfl, rfl⟩
        go_wp2_with (go_at_call 13; refine (wakes_any _).mono ?_; rintro e w9 ⟨rfl, hb9⟩)
        go_ret
        exact ⟨rfl, HBEL.out.trans (hb9.mono HBEL.out.size)⟩
  · have hp := prt_surr r hsr
    have hns : 55296 ≤ r ∧ r ≤ 57343 := by unfold surr at hsr; simpa using hsr
    have hn1 := hns.1
    have hn2 := hns.2
    clear hns hsr
    go_enter Try.func3, Try.ntmps3
    go_wp2_with fail
    refine (within_any a0 1114112 _ (by omega) (by omega) (by omega)).mono ?_
    rintro e w' ⟨rfl, rfl⟩
    rw [HX.out]
    go_wp2_with (first | (go_at_call 12; refine (prt_any _ _).mono ?_; rintro e w' ⟨rfl, rfl⟩) | (go_at_call 13; refine (wakes_any _).mono ?_; rintro e w9 ⟨rfl, hb9⟩))
    go_ret
    exact ⟨rfl, hb9⟩

/-! ### THE ROW's STEP: WRITTEN OUT: LEAVE IT -/
set_option maxRecDepth 100000 in
theorem lifted (os : Os) (started : os.Started) (H : Type) (enc : TypeId × Value → H) :
    ReturnsInHanded {} Try.checked os 3 .any (Rows.charsBackSpec.pre6 enc Try.prog Try.f3 Rows.charsBackRow.domain false) (Rows.charsBackSpec.post enc Try.prog Try.f3 false true false false) := by
  refine returnsInHanded_of_change (C := Try.checked) own started (by kernel_rfl) Try.func3
    (ChangeSpec.witness6 (enc := enc) (C := Try.checked) false ⟨#[], #[.int .i64 0, .string ByteArray.empty, .int .i64 0], []⟩ 8 (by kernel_rfl) (by kernel_rfl) (by kernel_rfl) (by kernel_rfl)) ?_
  intro W base args ds gs before hval0 hW hcnd _
  have hval : ∀ (j : Nat) t v, Try.f3.params[j]? = some t → args[j]? = some v → Value.okWide Try.prog W .any base t v := hval0
  have hW' := hW
  obtain ⟨p, q, hA0, hV, rfl, hfz, hnd⟩ := hW
  have hA : DataW.TrodAll enc Try.prog W 0 (fun _ => true) true Try.f3.params.toList args.toList ds p := hA0
  rw [Try.params3] at hA hval
  obtain ⟨v0, vs0, d0, ds0, p0, q0, hargs, rfl, rfl, h0, r0⟩ := trodAll_cons hA
  obtain ⟨v1, vs1, d1, ds1, p1, q1, rfl, rfl, rfl, h1, r1⟩ := trodAll_cons r0
  obtain ⟨v2, vs2, d2, ds2, p2, q2, rfl, rfl, rfl, h2, r2⟩ := trodAll_cons r1
  obtain ⟨rfl, rfl, rfl⟩ := trodAll_nil r2
  obtain rfl : args = #[v0, v1, v2] := by cases args; simp_all
  obtain ⟨rfl, rfl⟩ := trodVars_none hV
  obtain ⟨a0, rfl, rfl, rfl, w0⟩ := open_int Try.underlying3 (hval 0 3 v0 rfl rfl) h0
  obtain ⟨a1, rfl, rfl, rfl, w1⟩ := open_string Try.underlying9 (hval 1 9 v1 rfl rfl) h1
  obtain ⟨a2, rfl, rfl, rfl, w2⟩ := open_int Try.underlying3 (hval 2 3 v2 rfl rfl) h2
  clear hA0 hval0
  refine (walk a0 a1 a2 w0 w1 w2 W).mono fun e W' ⟨he, hg⟩ => ?_
  subst he
  exact ⟨_, rfl, _, _, _, [], [], [], hW', trodAll_mk1 (shut_bool Try.underlying4 _), (trodAll_cons_mk (shut_int Try.underlying3 w0) (trodAll_cons_mk (shut_string Try.underlying9 w1) (trodAll_cons_mk (shut_int Try.underlying3 w2) trodAll_mk0))), rfl, hg.frame _, fun h => by cases h⟩

theorem over : Rows.charsBackRow.holds Try.pinned (OpenSpec.ofChange Rows.charsBackSpec) :=
  OpenClaim.holds_of_wide 3 Try.f3 rfl rfl rfl rfl rfl rfl rfl ⟨rfl, rfl, rfl, rfl, rfl⟩ rfl rfl rfl rfl rfl (by kernel_rfl) Try.func3 (by kernel_rfl)
    (of_decide_eq_true (by kernel_rfl)) (by unfold Func.isWrapper; first | (rw [if_pos (by decide +kernel)]; kernel_rfl) | (rw [if_neg (by decide +kernel)]; exact ⟨rfl, rfl⟩))
    (fun os started H enc _ => lifted os started H enc)

/-- ████ THE STATEMENT ████ -/
theorem proved : Rows.CharsBackSaid :=
  over
#print axioms proved
end Go.Proofs.Ytpcbpblckecfiaa.charsBack
