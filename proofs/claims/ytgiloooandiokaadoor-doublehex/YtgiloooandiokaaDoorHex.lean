/-
  Proved: the card of the law 'scholium/scholiumlaw06.DoubleHex' (for every input it returns true, and every argument reads as it did before; the package variables that the row lists are tied to the program's text). No conditions.
-/
import Derived.Test.YtgiloooandiokaaDoorRows
import Derived.Test.YtgiloooandiokaaDoorCards
import Derived.Test.YtgiloooandiokaaDoorTie
import Derived.Test.YtgiloooandiokaaDoorDoor
import Derived.Test.YtgiloooandiokaaDoorDbDoor
import Derived.Test.YtgiloooandiokaaDoorDbLaw
import Derived.Test.YtgiloooandiokaaDoorKeep
import Derived.WalkKit
import Derived.ProofKit
import Derived.OpenShut
import Derived.ShutString
import Derived.ChangeOld
import Derived.Below
import Derived.LaidMore
import Derived.Lay
import Derived.SevenTiedAt
namespace Go.Proofs.YtgiloooandiokaaDoor.doubleHex
open Go.ChangeShapes Go.WideShapes Go.ChangeAt Go.RowKit
open Go.ChangeMaps (open_string shut_string)
set_option linter.unusedVariables false

theorem own : ownKnob Tryd.prog.godebug = none := by kernel_rfl
theorem laidOut : laidOutB Tryd.prog = true := by kernel_rfl

/-- A slice of integers that came in. -/
def IsRow (k : IntKind) (w : World) (a : Option Addr) (len cap : Nat) (zs : List Int) : Prop :=
  (a = none ∧ len = 0 ∧ cap = 0 ∧ zs = []) ∨
  ∃ x, a = some x ∧ len ≤ cap ∧ cap ≤ maxLen ∧ zs.length = cap ∧ (∀ i, i < zs.length → w.cell? (x.add i) = some (.int k (zs.getD i 0))) ∧ ∀ n ∈ zs, (Lit.int k n).wf = true

theorem u64_or16 (x y : Int) (hx₀ : 0 ≤ x) (hx : x % 16 = 0) (hx₁ : x < 18446744073709551616) (h₀ : 0 ≤ y) (h₁ : y < 16) : bits .or .u64 x y = x + y :=
  bits_join .u64 64 (by decide) (fun n h1 h2 => by simp [IntKind.wrap, IntKind.bits, IntKind.signed]; omega) 4 x y hx₀ hx hx₁ h₀ h₁ (by omega)
theorem u64_mask (i : Nat) (hi : i ≤ 64) (x : Int) (h₀ : 0 ≤ x) (h₁ : x < 18446744073709551616) : bits .and .u64 x (2 ^ i - 1) = x % 2 ^ i :=
  bits_mask .u64 64 (by decide) (fun n h1 h2 => by simp [IntKind.wrap, IntKind.bits, IntKind.signed]; omega) i hi x h₀ h₁

set_option maxHeartbeats 4000000 in
set_option maxRecDepth 100000 in
theorem walk (a0 : Int) (a1 : Int) (w : World) (w0 : (Lit.int .u32 a0).wf = true) (w1 : (Lit.int .i64 a1).wf = true) (hS : Shorts w) :
    Calls Tryd.prog 5 #[.int .u32 a0, .int .i64 a1] w fun e w' => e = .returned (.bool true) ∧ Below w.heap.size w w' := by
  have hn := bounds_u32 w0
  have hn0 := hn.1
  have hn1 : a0 < 4294967296 := by omega
  have hb1 := bounds_i64 w1
  have HS := Lib.hid hS
  have HB0 : Hid (Below w.heap.size w w) := Below.refl _ _
  clear hS w0 w1 hn
  go_enter Tryd.func5, Tryd.ntmps5
  go_upto_if 11 with fail
  go_cut [1] (fun s W => ∃ d : Int, s = .int .i64 d ∧ W = w ∧ -9223372036854775808 ≤ d ∧ d ≤ 9223372036854775807)
  case first =>
    by_cases h4 : (a1.tmod 5 != 4) = true
    · go_wp2_with fail
      refine (within_any a1 9 w (by omega) (by omega) (by omega)).mono ?_
      rintro e w' ⟨rfl, rfl⟩
      go_wp2_with fail
      go_meet
      exact ⟨_, rfl, rfl, by omega, by omega⟩
    · have h4' : (a1.tmod 5 != 4) = false := by simpa using h4
      clear h4
      go_wp2_with fail
      go_meet
      exact ⟨_, rfl, rfl, by omega, by omega⟩
  case rest =>
    obtain ⟨d, rfl, rfl, hd1, hd2⟩ := hcut
    go_wp2_with fail
    refine (hex_at HB0.out a0 d hn0 hn1 ⟨hd1, hd2⟩).mono ?_
    rintro e W1 ⟨h, hh, rfl, hb⟩
    have HB := Lib.hid hb
    have HH := Lib.hid hh
    clear hb hh
    by_cases hs : d < 0 ∨ 8 < d
    · obtain rfl : h = ⟨#[]⟩ := byt_inj (by rw [HH.out, hexS, if_pos hs]; rfl)
      clear HH
      rcases hs with hs | hs
      · go_wp2_with fail
        refine (wakes_at HB.out HS.out).mono ?_
        rintro e W2 ⟨rfl, hb2⟩
        have HB2 := Lib.hid hb2
        clear hb2
        go_wp2_with fail
        go_ret
        exact ⟨rfl, HB2.out⟩
      · have hs0 : decide (d < 0) = false := decide_eq_false (by omega)
        go_wp2_with fail
        refine (wakes_at HB.out HS.out).mono ?_
        rintro e W2 ⟨rfl, hb2⟩
        have HB2 := Lib.hid hb2
        clear hb2
        go_wp2_with fail
        go_ret
        exact ⟨rfl, HB2.out⟩
    · obtain ⟨m, rfl⟩ : ∃ m : Nat, d = (m : Int) := ⟨d.toNat, by omega⟩
      have hm : m ≤ 8 := by omega
      have hhx : byt h = hexF a0 m := by rw [HH.out, hexS, if_neg hs, Int.toNat_natCast]
      have hsz : h.size = m := by rw [← byt_len, hhx, hexF_len]
      have HX := Lib.hid hhx
      have HZ := Lib.hid hsz
      have e1 : ((h.size : Int) != (m : Int)) = false := by rw [hsz]; simp
      have g1 : decide ((m : Int) < 0) = false := decide_eq_false (by omega)
      have g2 : decide (8 < (m : Int)) = false := decide_eq_false (by omega)
      have hs8 : h.size ≤ 8 := by omega
      clear HH hs hhx hsz hd1 hd2
      go_wp2_with fail
      go_loopw [6] (fun v W => ∃ (pos : Nat) (q : Int), pos ≤ h.size ∧ W = W1.iter h pos ∧ v = .int .u64 q ∧ Hid (hexV 0 ((byt h).take pos) = some q)) (fun _ W => h.size - W.iterPos W1.heap.size)
      case atStart => exact ⟨0, 0, by omega, rfl, rfl, rfl⟩
      case round =>
        obtain ⟨pos, q, hpos, rfl, rfl, HQ⟩ := hrel
        by_cases hlt : pos < h.size
        · have hat := byt_at h pos hlt
          have hst := hexV_step (byt h) pos _ q hat HQ.out
          have hcl := hexF_byte m a0 (h[pos].toNat : Int) (by rw [← HX.out]; exact List.mem_of_getElem? hat)
          have hdc := decode_ascii h pos hlt (by omega)
          have hnx : ∀ ty, (Instr.next (.pointer (some ⟨W1.heap.size, 0, none⟩)) true ty).run Tryd.prog (W1.iter h pos) = .ok (.tuple #[.bool true, .int .i64 pos, .int .i32 (Utf8.decode h pos).1]) (W1.iter h (pos + 1)) := fun ty => by
            rw [run_next_any W1 h pos ty hlt, hdc]
          have hix : ∀ W, (Instr.index 9 (.string h) (.int .i64 (pos : Int))).run Tryd.prog W = .ok (.int .u8 (h[pos].toNat : Int)) W := by
            intro W
            rw [run_index_string W 9 h .i64 _ Tryd.underlying9, dif_pos (by omega)]
            simp
          have hq0 : 0 ≤ q ∧ q < 268435456 := (hexV_lt _ q HQ.out).1 (by rw [List.length_take]; omega)
          have hq1 := hq0.1
          have hq2 := hq0.2
          have HST := Lib.hid hst
          clear hq0 hst hat hdc HQ
          generalize (Utf8.decode h pos).1 = rr at *
          generalize (h[pos].toNat : Int) = c at *
          rcases hcl with ⟨k1, k2⟩ | ⟨k1, k2⟩
          · have HN : Hid (hexV 0 ((byt h).take (pos + 1)) = some (q * 16 + (c - 48))) := by
              show _ = _
              rw [HST.out, show hexD c = some (c - 48) by unfold hexD; rw [if_pos ⟨k1, k2⟩]]
            clear HST
            go_wp2_with fail
            go_roundw
            case rel => exact ⟨pos + 1, q * 16 + (c - 48), by omega, rfl, by rw [u64_or16 _ _ (by omega) (by omega) (by omega) (by omega) (by omega)], HN⟩
            case measure => simp; omega
          · have HN : Hid (hexV 0 ((byt h).take (pos + 1)) = some (q * 16 + (c - 65 + 10))) := by
              show _ = _
              rw [HST.out, show hexD c = some (c - 55) by unfold hexD; rw [if_neg (by omega), if_pos ⟨k1, k2⟩]]
              simp only [Option.some.injEq]; omega
            have k3 : decide (c ≤ 57) = false := decide_eq_false (by omega)
            clear HST
            go_wp2_with fail
            go_roundw
            case rel => exact ⟨pos + 1, q * 16 + (c - 65 + 10), by omega, rfl, by rw [u64_or16 _ _ (by omega) (by omega) (by omega) (by omega) (by omega)], HN⟩
            case measure => simp; omega
        · obtain rfl : pos = h.size := by omega
          have hnx : ∀ ty, (Instr.next (.pointer (some ⟨W1.heap.size, 0, none⟩)) true ty).run Tryd.prog (W1.iter h h.size) = _ := fun ty => run_next_end W1 h h.size ty hlt
          have HBI : Hid (Below wc.heap.size wc (W1.iter h h.size)) := HB.out.alloc HB.out.size _
          have hqv : q = a0 % 2 ^ (4 * m) := by
            have h1 := HQ.out
            rw [List.take_of_length_le (by rw [byt_len]; omega), HX.out, hexV_F m a0 hn0] at h1
            injection h1 with h1
            rw [← h1, Int.pow_mul]; rfl
          have hand := u64_mask (4 * m) (by omega) a0 hn0 (by omega)
          rw [← hqv] at hand
          have hpw : (1 : Int) ≤ 2 ^ (4 * m) ∧ (2 : Int) ^ (4 * m) ≤ 4294967296 := by
            have h1 : (2 : Int) ^ (4 * m) = ((2 ^ (4 * m) : Nat) : Int) := by rw [Int.natCast_pow]; rfl
            have h2 := Nat.pow_le_pow_right (show 0 < 2 by omega) (show 4 * m ≤ 32 by omega)
            have h3 := Nat.two_pow_pos (4 * m)
            rw [h1]; omega
          have heq : (q == bits .and .u64 a0 (IntKind.u64.wrap (IntKind.u64.wrap (2 ^ (4 * m)) - 1))) = true := by
            have w1 : IntKind.u64.wrap (2 ^ (4 * m)) = 2 ^ (4 * m) := by simp only [IntKind.wrap, IntKind.bits, IntKind.signed]; simp; omega
            have w2 : IntKind.u64.wrap (2 ^ (4 * m) - 1) = 2 ^ (4 * m) - 1 := by simp only [IntKind.wrap, IntKind.bits, IntKind.signed]; simp; omega
            rw [w1, w2, hand]; simp
          clear HQ hqv hand hpw
          go_wp2_with fail
          refine (wakes_at HBI.out HS.out).mono ?_
          rintro e W2 ⟨rfl, hb2⟩
          have HB2 := Lib.hid hb2
          clear hb2
          go_wp2_with fail
          go_ret
          exact ⟨rfl, HB2.out⟩


set_option maxRecDepth 100000 in
theorem lifted (os : Os) (started : os.Started) (H : Type) (enc : TypeId × Value → H) :
    ReturnsInHanded {} Tryd.checked os 5 .any (fun w args => (Rows.doubleHexSpec.pre enc Tryd.prog Tryd.f5 Rows.doubleHexRow.domain false w args ∧ laidMetH Tryd.prog Rows.doubleHexRow.laid w) ∧ sizedMet enc Tryd.prog Tryd.f5 (OpenSpec.ofChange Rows.doubleHexSpec) false w args)
      (Rows.doubleHexSpec.post enc Tryd.prog Tryd.f5 false true false false) := by
  refine returns_listed (C := Tryd.checked) (X := fun w _ => laidMetH Tryd.prog Rows.doubleHexRow.laid w) (fun _ _ _ hh h => h.of_heap hh) own started (by kernel_rfl) Tryd.func5
    (ChangeSpec.witness_shaped (enc := enc) (C := Tryd.checked) (os := os) (X := fun w _ => laidMetH Tryd.prog Rows.doubleHexRow.laid w) false (World.laidAll Tryd.prog os Rows.doubleHexRow.laid) #[.int .u32 0, .int .i64 0] 8 (World.laidAll_os _ _ _)
      (World.shaped_of_ZipB (by kernel_rfl) (by kernel_rfl)) (by kernel_rfl) (by kernel_rfl) (by kernel_rfl)
      (by rw [MakeChecks.laidMetH_plain _ _ _ (by kernel_rfl)]; exact laidMet_laidAll _ (by kernel_rfl) (by kernel_rfl))) ?_
  intro W base args ds gs before hval0 hW hX hsh
  have hval : ∀ (j : Nat) t v, Tryd.f5.params[j]? = some t → args[j]? = some v → Value.okWide Tryd.prog W .any base t v := hval0
  have hW' := hW
  obtain ⟨p, q, hA0, hV, rfl, hfz, hnd⟩ := hW
  have hA : DataW.TrodAll enc Tryd.prog W 0 (fun _ => true) true Tryd.f5.params.toList args.toList ds p := hA0
  rw [Tryd.params5] at hA hval
  obtain ⟨v0, vs0, d0, ds0, p0, q0, hargs, rfl, rfl, h0, r0⟩ := trodAll_cons hA
  obtain ⟨v1, vs1, d1, ds1, p1, q1, rfl, rfl, rfl, h1, r1⟩ := trodAll_cons r0
  obtain ⟨rfl, rfl, rfl⟩ := trodAll_nil r1
  obtain rfl : args = #[v0, v1] := by cases args; simp_all
  obtain ⟨rfl, rfl⟩ := trodVars_none hV
  obtain ⟨a0, rfl, rfl, rfl, w0⟩ := open_int Tryd.underlying32 (hval 0 32 v0 rfl rfl) h0
  obtain ⟨a1, rfl, rfl, rfl, w1⟩ := open_int Tryd.underlying3 (hval 1 3 v1 rfl rfl) h1
  clear hA0 hval0
  refine (walk a0 a1 W w0 w1 (shorts_laid hX)).mono fun e W' ⟨he, bel⟩ => ?_
  subst he
  exact ⟨_, rfl, _, _, _, [], _, [], hW', trodAll_mk1 (shut_bool Tryd.underlying4 _), (trodAll_cons_mk (shut_int Tryd.underlying32 w0) (trodAll_cons_mk (shut_int Tryd.underlying3 w1) trodAll_mk0)), rfl, bel.frame _, fun h => by cases h⟩

theorem over : Rows.doubleHexRow.holds Tryd.pinned (OpenSpec.ofChange Rows.doubleHexSpec) :=
  OpenClaim.holds_of_wide 5 Tryd.f5 rfl rfl rfl rfl rfl rfl rfl ⟨rfl, rfl, rfl, rfl, rfl⟩ rfl rfl rfl rfl rfl (by kernel_rfl) Tryd.func5 (by kernel_rfl)
    (of_decide_eq_true (by kernel_rfl)) (by unfold Func.isWrapper; first | (rw [if_pos (by decide +kernel)]; kernel_rfl) | (rw [if_neg (by decide +kernel)]; exact ⟨rfl, rfl⟩))
    (fun os started H enc _ => lifted os started H enc)

theorem proved : Rows.DoubleHexCardSaid :=
  Claim7.holds_tied_plain_at .later [] [.data] true (true, "ab909530bb952c5f780ce0eaafa1f0b2631ff06e5414448791499cdd5477867f") false over (fun _ h => by cases h) (by kernel_rfl) (fun _ h => by cases h) doubleHex_row_tie rfl ⟨rfl, rfl⟩ (by kernel_rfl) rfl
    (fun f fn hf hfn => by
      obtain rfl : f = 5 := Option.some.inj ((show Tryd.prog.funcNamed Rows.doubleHexRow.func = some 5 by kernel_rfl).symm.trans hf) |>.symm
      obtain rfl : fn = Tryd.f5 := (Option.some.inj (Tryd.func5.symm.trans hfn)).symm
      exact ⟨by kernel_rfl, fun j t ht => by
        rw [Tryd.params5] at ht
        have hm : t ∈ [32, 3] := by simpa using Array.mem_of_getElem? ht
        have hall : ([32, 3].all fun u => !Tryd.prog.wantsStandIn u) = true := by kernel_rfl
        exact (show Tryd.prog.wantsStandIn t = false by simpa using List.all_eq_true.1 hall t hm)⟩)
    (by kernel_rfl)
#print axioms proved
end Go.Proofs.YtgiloooandiokaaDoor.doubleHex
