/-
  Proved: the law 'scholium/scholiumlaw01.CharsNames' returns true for every input, and every argument reads as it did before. No conditions.
-/
import Derived.Test.YtpcbpblckecfiaaRows
import Derived.Test.YtpcbpblckecfiaaOwn
import Derived.WalkKit
import Derived.ProofKit
import Derived.OpenShut
import Derived.ShutString
namespace Go.Proofs.Ytpcbpblckecfiaa.charsNames
open Go.ChangeShapes Go.WideShapes Go.ChangeAt Go.RowKit
open Go.ChangeMaps (open_string shut_string)
set_option linter.unusedVariables false      -- a walk need not use every 'w<i>' (that an integer argument fits its kind)

theorem own : ownKnob Try.prog.godebug = none := by kernel_rfl

def pat : List Int := [97, 90, 48, 45, 95]
def patN (n k : Nat) : List Int := (List.range n).map fun i => if i < k then pat.getD (i % 5) 0 else 0
theorem patN_len (n k : Nat) : (patN n k).length = n := by simp [patN]
theorem patN_set (n k : Nat) (h : k < n) : (patN n k).set k (pat.getD (k % 5) 0) = patN n (k + 1) := by
  apply List.ext_getElem?
  intro i
  rw [List.getElem?_set]
  simp only [patN, List.getElem?_map, List.length_map, List.length_range]
  by_cases hi : i < n
  · rw [List.getElem?_range hi]
    simp only [Option.map_some]
    by_cases he : k = i
    · subst he; simp [h]
    · rw [if_neg he]
      by_cases h1 : i < k
      · rw [if_pos h1, if_pos (by omega)]
      · rw [if_neg h1, if_neg (by omega)]
  · have : (List.range n)[i]? = none := by simp; omega
    rw [this]; simp; omega

theorem pat_at (k : Nat) (h : k % 5 < ByteArray.size { data := #[97, 90, 48, 45, 95] }) : (((ByteArray.mk #[97, 90, 48, 45, 95])[k % 5]'h).toNat : Int) = pat.getD (k % 5) 0 := by
  have : k % 5 < 5 := Nat.mod_lt _ (by omega)
  generalize k % 5 = j at *
  match j, this with
  | 0, _ => rfl
  | 1, _ => rfl
  | 2, _ => rfl
  | 3, _ => rfl
  | 4, _ => rfl
theorem pat_nmb (k : Nat) : nmb (pat.getD (k % 5) 0) = true := by
  have : k % 5 < 5 := Nat.mod_lt _ (by omega)
  generalize k % 5 = j at *
  match j, this with
  | 0, _ => rfl
  | 1, _ => rfl
  | 2, _ => rfl
  | 3, _ => rfl
  | 4, _ => rfl
theorem patN_zero (n : Nat) : patN n 0 = List.replicate n 0 := by
  apply List.ext_getElem?
  intro i
  by_cases hi : i < n
  · simp [patN, hi]
  · simp [patN, hi]
theorem patN_all (n : Nat) : (patN n n).all nmb = true := by
  rw [List.all_eq_true]
  intro z hz
  simp only [patN, List.mem_map, List.mem_range] at hz
  obtain ⟨i, hi, rfl⟩ := hz
  rw [if_pos hi]; exact pat_nmb i
theorem pat_byte (k : Nat) : 0 ≤ pat.getD (k % 5) 0 ∧ pat.getD (k % 5) 0 < 256 := by
  have : k % 5 < 5 := Nat.mod_lt _ (by omega)
  generalize k % 5 = j at *
  match j, this with
  | 0, _ => decide
  | 1, _ => decide
  | 2, _ => decide
  | 3, _ => decide
  | 4, _ => decide
theorem patN_byte (n : Nat) : Byte (patN n n) := by
  intro z hz
  simp only [patN, List.mem_map, List.mem_range] at hz
  obtain ⟨i, hi, rfl⟩ := hz
  rw [if_pos hi]; exact pat_byte i
theorem byte_set {zs : List Int} (h : Byte zs) (k : Nat) {c : Int} (hc : 0 ≤ c ∧ c < 256) : Byte (zs.set k c) := by
  intro z hz
  rcases List.mem_or_eq_of_mem_set hz with h1 | rfl
  · exact h z h1
  · exact hc
theorem all_set (zs : List Int) (h : zs.all nmb = true) (k : Nat) (hk : k < zs.length) (c : Int) : (zs.set k c).all nmb = nmb c := by
  cases hc : nmb c
  · rw [List.all_eq_false]
    exact ⟨c, List.mem_set hk c, by simp [hc]⟩
  · rw [List.all_eq_true] at h ⊢
    intro z hz
    rcases List.mem_or_eq_of_mem_set hz with h1 | rfl
    · exact h z h1
    · exact hc
theorem nameF_pat (n : Nat) : nameF (patN n n) = (decide (1 ≤ n) && decide (n ≤ 32)) := by
  unfold nameF; rw [patN_len, patN_all]; simp
theorem nameF_set (n k : Nat) (hk : k < n) (c : Int) : nameF ((patN n n).set k c) = (nmb c && decide (n ≤ 32)) := by
  unfold nameF; rw [List.length_set, patN_len, all_set _ (patN_all n) k (by rw [patN_len]; exact hk)]
  rw [decide_eq_true (show 1 ≤ n by omega)]; simp [Bool.and_comm]
theorem name_own (W : World) (zs : List Int) (hb : Byte zs) (hl : zs.length ≤ 40) (v : Bool) (hv : nameF zs = v) :
    Calls Try.prog 19 #[.string (strOfNums zs)] W fun e w' => e = .returned (.bool v) ∧ W = w' := by
  have := name_any (strOfNums zs) W (by rw [strOfNums_size]; unfold maxLen; omega)
  rw [byt_strOfNums zs hb, hv] at this
  exact this

theorem cls (c : Int) : (97 ≤ c ∧ c ≤ 122 ∧ nmb c = true) ∨ (65 ≤ c ∧ c ≤ 90 ∧ nmb c = true) ∨ (48 ≤ c ∧ c ≤ 57 ∧ nmb c = true) ∨ c = 45 ∨ c = 95 ∨
    (122 < c ∧ 97 ≤ c ∧ nmb c = false) ∨ (90 < c ∧ c < 97 ∧ (c == 95) = false ∧ nmb c = false) ∨ (57 < c ∧ c < 65 ∧ nmb c = false) ∨ (c < 48 ∧ (c == 45) = false ∧ nmb c = false) := by
  have hn : nmb c = true ∨ nmb c = false := by cases nmb c <;> simp
  have e : nmb c = true ↔ (65 ≤ c ∧ c ≤ 90) ∨ (97 ≤ c ∧ c ≤ 122) ∨ (48 ≤ c ∧ c ≤ 57) ∨ c = 45 ∨ c = 95 := by
    unfold nmb dgt; simp; omega
  have f : nmb c = false ↔ ¬ ((65 ≤ c ∧ c ≤ 90) ∨ (97 ≤ c ∧ c ≤ 122) ∨ (48 ≤ c ∧ c ≤ 57) ∨ c = 45 ∨ c = 95) := by
    rw [← e]; simp
  rw [beq_eq_false_iff_ne, beq_eq_false_iff_ne]
  rw [e, f]
  omega

set_option maxHeartbeats 4000000 in
theorem walk (a0 : Int) (a1 : Int) (a2 : Int) (w0 : (Lit.int .i64 a0).wf = true) (w1 : (Lit.int .i64 a1).wf = true) (w2 : (Lit.int .u8 a2).wf = true) (w : World) :
    Calls Try.prog 6 #[.int .i64 a0, .int .i64 a1, .int .u8 a2] w fun e w' => e = .returned (.bool true) ∧ Below w.heap.size w w' := by
  have hb0 := bounds_i64 w0
  have hb1 := bounds_i64 w1
  have hb2 := bounds_u8 w2
  have hm1 := Int.emod_nonneg a0 (show (36 : Int) ≠ 0 by omega)
  have hm2 := Int.emod_lt_of_pos a0 (show (0 : Int) < 36 by omega)
  obtain ⟨n, hx⟩ : ∃ n : Nat, a0 % 36 = (n : Int) := ⟨(a0 % 36).toNat, by omega⟩
  have hn : n < 36 := by omega
  have HX := Lib.hid hx
  clear hx hm1 hm2
  have hmk := fun W => run_make_bytes n (by omega) W
  go_enter Try.func6, Try.ntmps6
  go_wp2_with fail
  refine (within_any a0 36 _ (by omega) (by omega) (by omega)).mono ?_
  rintro e w' ⟨rfl, rfl⟩
  rw [HX.out]
  go_wp2
  clear hmk
  go_loopw [16] (fun i W => ∃ k : Nat, k ≤ n ∧ i = .int .i64 k ∧ Hid (Below w.heap.size w W ∧ OwnB W w.heap.size (patN n k))) (fun i _ => n - (intOf i).toNat)
  case atStart => exact ⟨0, by omega, rfl, (Below.refl _ _).alloc (Nat.le_refl _) _, by rw [patN_zero]; exact OwnB.new _ _⟩
  case round =>
    obtain ⟨k, hk, rfl, HR⟩ := hrel
    by_cases hlt : k < n
    · have hcz := HR.out.2.at_ k _ (getD_at (by rw [patN_len]; exact hlt))
      have hfz := HR.out.2.frozen k
      go_wp2
      go_roundw
      case rel =>
        refine ⟨k + 1, by omega, by go_num, HR.out.1.setCell (Nat.le_refl _) _, ?_⟩
        rw [pat_at, ← patN_set n k hlt]
        exact HR.out.2.set k _
      case measure => simp [intOf]; omega
    · obtain rfl : n = k := by omega
      have hcv := run_string_of wr w.heap.size n (patN n n) (patN_len n n) HR.out.2
      have nn := nameF_pat n
      by_cases h0 : n = 0
      · subst h0
        have NN := Lib.hid nn
        clear nn
        go_wp2_with fail
        refine (name_own _ (patN 0 0) (patN_byte 0) (by rw [patN_len]; omega) false (by rw [NN.out]; rfl)).mono ?_
        rintro e w' ⟨rfl, rfl⟩
        go_wp2_with (go_at_call 13; refine (wakes_any _).mono ?_; rintro e w9 ⟨rfl, hb9⟩)
        go_ret
        exact ⟨rfl, HR.out.1.trans (hb9.mono HR.out.1.size)⟩
      · have d0 : ((n : Int) == 0) = false := beq_eq_false_iff_ne.2 (by omega)
        have d1 : (1 : Int) ≤ (n : Int) := by omega
        have hj1 := Int.emod_nonneg a1 (show (n : Int) ≠ 0 by omega)
        have hj2 := Int.emod_lt_of_pos a1 (show (0 : Int) < (n : Int) by omega)
        obtain ⟨j, hj⟩ : ∃ j : Nat, a1 % (n : Int) = (j : Int) := ⟨(a1 % (n : Int)).toNat, by omega⟩
        have hjn : j < n := by omega
        have HJ := Lib.hid hj
        clear hj hj1 hj2
        have hcz := HR.out.2.at_ j _ (getD_at (by rw [patN_len]; exact hjn))
        have hfz := HR.out.2.frozen j
        have hown := HR.out.2.set j a2
        have hcv2 := run_string_of _ w.heap.size n _ (by rw [List.length_set, patN_len]) hown
        have HOWN := Lib.hid hown
        have ns := nameF_set n j hjn a2
        clear hown
        obtain ⟨v, hv⟩ : ∃ v : Bool, v = decide (n ≤ 32) := ⟨_, rfl⟩
        rw [decide_eq_true (show 1 ≤ n by omega), ← hv, Bool.true_and] at nn
        rw [← hv] at ns
        have d2 : decide ((n : Int) ≤ 32) = v := by rw [hv]; exact decide_eq_decide.2 (by omega)
        have NN := Lib.hid nn
        have NS := Lib.hid ns
        clear nn ns hv
        go_wp2_with fail
        refine (name_own _ (patN n n) (patN_byte n) (by rw [patN_len]; omega) v NN.out).mono ?_
        rintro e w' ⟨rfl, rfl⟩
        cases v
        all_goals
          go_wp2_with fail
          refine (within_any a1 n _ (by omega) (by omega) (by omega)).mono ?_
          rintro e w' ⟨rfl, rfl⟩
          rw [HJ.out]
          have hns := NS.out
          clear NS NN
          rcases cls a2 with ⟨g1, g2, hnb⟩ | ⟨g1, g2, hnb⟩ | ⟨g1, g2, hnb⟩ | rfl | rfl | ⟨g1, g2, hnb⟩ | ⟨g1, g2, g3, hnb⟩ | ⟨g1, g2, hnb⟩ | ⟨g1, g2, hnb⟩
          all_goals
            first | (rw [hnb] at hns; clear hnb) | (rw [show nmb 45 = true from rfl] at hns) | (rw [show nmb 95 = true from rfl] at hns)
            have NS := Lib.hid hns
            clear hns
            go_wp2_with (first | (go_at_call 19; refine (name_own _ _ (byte_set (patN_byte n) j ⟨by omega, by omega⟩) (by rw [List.length_set, patN_len]; omega) _ NS.out).mono ?_; rintro e w' ⟨rfl, rfl⟩) | (go_at_call 13; refine (wakes_any _).mono ?_; rintro e w9 ⟨rfl, hb9⟩))
            go_ret
            exact ⟨rfl, (HR.out.1.setCell (Nat.le_refl _) _).trans (hb9.mono (HR.out.1.setCell (Nat.le_refl _) _).size)⟩

/-! ### THE ROW's STEP: WRITTEN OUT: LEAVE IT -/
set_option maxRecDepth 100000 in
theorem lifted (os : Os) (started : os.Started) (H : Type) (enc : TypeId × Value → H) :
    ReturnsInHanded {} Try.checked os 6 .any (Rows.charsNamesSpec.pre6 enc Try.prog Try.f6 Rows.charsNamesRow.domain false) (Rows.charsNamesSpec.post enc Try.prog Try.f6 false true false false) := by
  refine returnsInHanded_of_change (C := Try.checked) own started (by kernel_rfl) Try.func6
    (ChangeSpec.witness6 (enc := enc) (C := Try.checked) false ⟨#[], #[.int .i64 0, .int .i64 0, .int .u8 0], []⟩ 8 (by kernel_rfl) (by kernel_rfl) (by kernel_rfl) (by kernel_rfl)) ?_
  intro W base args ds gs before hval0 hW hcnd _
  have hval : ∀ (j : Nat) t v, Try.f6.params[j]? = some t → args[j]? = some v → Value.okWide Try.prog W .any base t v := hval0
  have hW' := hW
  obtain ⟨p, q, hA0, hV, rfl, hfz, hnd⟩ := hW
  have hA : DataW.TrodAll enc Try.prog W 0 (fun _ => true) true Try.f6.params.toList args.toList ds p := hA0
  rw [Try.params6] at hA hval
  obtain ⟨v0, vs0, d0, ds0, p0, q0, hargs, rfl, rfl, h0, r0⟩ := trodAll_cons hA
  obtain ⟨v1, vs1, d1, ds1, p1, q1, rfl, rfl, rfl, h1, r1⟩ := trodAll_cons r0
  obtain ⟨v2, vs2, d2, ds2, p2, q2, rfl, rfl, rfl, h2, r2⟩ := trodAll_cons r1
  obtain ⟨rfl, rfl, rfl⟩ := trodAll_nil r2
  obtain rfl : args = #[v0, v1, v2] := by cases args; simp_all
  obtain ⟨rfl, rfl⟩ := trodVars_none hV
  obtain ⟨a0, rfl, rfl, rfl, w0⟩ := open_int Try.underlying3 (hval 0 3 v0 rfl rfl) h0
  obtain ⟨a1, rfl, rfl, rfl, w1⟩ := open_int Try.underlying3 (hval 1 3 v1 rfl rfl) h1
  obtain ⟨a2, rfl, rfl, rfl, w2⟩ := open_int Try.underlying5 (hval 2 5 v2 rfl rfl) h2
  clear hA0 hval0
  refine (walk a0 a1 a2 w0 w1 w2 W).mono fun e W' ⟨he, hg⟩ => ?_
  subst he
  exact ⟨_, rfl, _, _, _, [], [], [], hW', trodAll_mk1 (shut_bool Try.underlying4 _), (trodAll_cons_mk (shut_int Try.underlying3 w0) (trodAll_cons_mk (shut_int Try.underlying3 w1) (trodAll_cons_mk (shut_int Try.underlying5 w2) trodAll_mk0))), rfl, hg.frame _, fun h => by cases h⟩

theorem over : Rows.charsNamesRow.holds Try.pinned (OpenSpec.ofChange Rows.charsNamesSpec) :=
  OpenClaim.holds_of_wide 6 Try.f6 rfl rfl rfl rfl rfl rfl rfl ⟨rfl, rfl, rfl, rfl, rfl⟩ rfl rfl rfl rfl rfl (by kernel_rfl) Try.func6 (by kernel_rfl)
    (of_decide_eq_true (by kernel_rfl)) (by unfold Func.isWrapper; first | (rw [if_pos (by decide +kernel)]; kernel_rfl) | (rw [if_neg (by decide +kernel)]; exact ⟨rfl, rfl⟩))
    (fun os started H enc _ => lifted os started H enc)

/-- ████ THE STATEMENT ████ -/
theorem proved : Rows.CharsNamesSaid :=
  over
#print axioms proved
end Go.Proofs.Ytpcbpblckecfiaa.charsNames
