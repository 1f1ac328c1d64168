/-
  Proved: the law 'scholium/scholiumlaw14.CheckTells' returns true for every input, and every argument reads as it did before. No conditions.
-/
import Derived.Test.YtcddlconcngjlaaRows
import Derived.Test.YtcddlconcngjlaaMM
import Derived.Test.YtcddlconcngjlaaMH
import Derived.Test.YtcddlconcngjlaaMN
import Derived.WalkKit
import Derived.ProofKit
import Derived.OpenShut
import Derived.ShutString
import Derived.ChangeOld
import Derived.Below
namespace Go.Proofs.Ytcddlconcngjlaa.checkTells
open Go.ChangeShapes Go.WideShapes Go.ChangeAt Go.RowKit
open Go.ChangeMaps (open_string shut_string)
set_option linter.unusedVariables false

theorem own : ownKnob Try.prog.godebug = none := by kernel_rfl
theorem laidOut : laidOutB Try.prog = true := by kernel_rfl

/-- A slice of integers that came in. -/
def IsRow (k : IntKind) (w : World) (a : Option Addr) (len cap : Nat) (zs : List Int) : Prop :=
  (a = none ∧ len = 0 ∧ cap = 0 ∧ zs = []) ∨
  ∃ x, a = some x ∧ len ≤ cap ∧ cap ≤ maxLen ∧ zs.length = cap ∧ (∀ i, i < zs.length → w.cell? (x.add i) = some (.int k (zs.getD i 0))) ∧ ∀ n ∈ zs, (Lit.int k n).wf = true

set_option linter.unusedSimpArgs false
set_option maxRecDepth 100000
set_option maxHeartbeats 16000000
theorem row_num {w : World} {a : Option Addr} {len cap : Nat} {zs : List Int} (h : IsRow .i64 w a len cap zs) : NumIn w a len ∧ len ≤ cap ∧ cap ≤ 9223372036854775807 := by
  rcases h with ⟨rfl, rfl, rfl, rfl⟩ | ⟨x, rfl, h1, h2, h3, h4, h5⟩
  · exact ⟨fun h => by omega, by omega, by omega⟩
  · unfold maxLen at h2
    refine ⟨fun h0 => ?_, h1, by omega⟩
    have hc0 := h4 0 (by omega)
    obtain ⟨b, off, spot⟩ := x
    have hspot : spot = none := by simpa [Addr.add] using World.cell?_spot hc0
    subst hspot
    refine ⟨b, off, rfl, fun k hk => ?_⟩
    have hc := h4 k (by omega)
    rw [add_plain] at hc
    have hw := h5 _ (List.mem_of_getElem? (getD_at (zs := zs) (k := k) (by omega)))
    exact ⟨_, hc, bounds_i64 hw⟩
theorem walk (a0 : Value) (a1 : Option Addr) (len1 cap1 : Nat) (z1 : List Int) (w : World) (w0 : IsPlan w a0) (w1 : IsRow .i64 w a1 len1 cap1 z1) :
    Calls Try.prog 5 #[a0, .slice a1 len1 cap1] w fun e w' => e = .returned (.bool true) ∧ Below w.heap.size w w' := by
  obtain ⟨A1, n1, c1, A2, n2, c2, rfl, hp⟩ := w0
  obtain ⟨hm, hm1, hm2⟩ := row_num w1
  clear w1
  have HP := Lib.hid (And.intro hp hm)
  clear hp hm
  obtain ⟨W0, hW0⟩ : ∃ W0, w.alloc (.cells #[.slice A1 n1 c1, .slice A2 n2 c2] 25) = W0 := ⟨_, rfl⟩
  have HB0 : Hid (Below w.heap.size w W0) := by show Below _ _ _; rw [← hW0]; exact (Below.refl _ _).alloc (Nat.le_refl _) _
  have pq0 : W0.cell? ⟨w.heap.size, 0, none⟩ = some (.slice A1 n1 c1) := by rw [← hW0, World.cell?_alloc_mark]; rfl
  have pq1 : W0.cell? ⟨w.heap.size, 1, none⟩ = some (.slice A2 n2 c2) := by rw [← hW0, World.cell?_alloc_mark]; rfl
  go_enter Try.func5, Try.ntmps5
  go_wp2_with fail
  clear hW0 pq0 pq1
  refine (cktree_at HP.out.1 HP.out.2 hm1 hm2 HB0.out).mono ?_
  rintro e W1 ⟨g, n, cap, l, E, rfl, hn0, hnl, hnc, hcm, hgl, hge, htx, hbb⟩
  have HB1 := Lib.hid (below_step HB0.out hbb)
  have HF := Lib.hid (And.intro hgl (And.intro (hge.small (by rw [hgl.len]; omega)) (And.intro htx hge)))
  clear hgl hge htx hbb HP HB0 hm1 hm2
  have HC := Lib.hid (check_at HF.out.1 HF.out.2.2.1 HF.out.2.1 (by omega))
  have HRC : Hid (∀ V, Below W1.heap.size W1 V → Calls Try.prog 29 #[.slice (some ⟨g, 0, none⟩) n cap] V fun e w' => e = .returned (.tuple #[.int .i64 (ckF l).1, .int .i64 (ckF l).2]) ∧ Below V.heap.size V w') := fun V hV => rcheck_at (HF.out.1.below hV) HF.out.2.2.2 HF.out.2.2.1 HF.out.2.1 (by omega)
  obtain ⟨Q, hQ⟩ : ∃ z, ckF l = z := ⟨_, rfl⟩
  rw [hQ] at HC HRC
  obtain ⟨q1, q2⟩ := Q
  simp only at HC HRC
  clear hQ
  go_wp2_with fail
  refine HC.out.mono ?_
  clear HC
  rintro e W2 ⟨rfl, hb⟩
  have HB2 := Lib.hid (And.intro (below_step HB1.out hb) hb)
  clear hb
  go_wp2_with fail
  refine (HRC.out W2 HB2.out.2).mono ?_
  clear HRC
  rintro e W3 ⟨rfl, hb⟩
  have HB3 := Lib.hid (And.intro (below_step HB2.out.1 hb) (below_step HB2.out.2 hb))
  clear hb
  have HCA := Lib.hid (anchors_at (HF.out.1.below HB3.out.2) HF.out.2.2.1 (by omega))
  have nq1 : (q1 != q1) = false := by rw [bne_eq_false_iff_eq]
  have nq2 : (q2 != q2) = false := by rw [bne_eq_false_iff_eq]
  go_wp2_with fail
  refine HCA.out.mono ?_
  clear HCA
  rintro e W4 ⟨BA, mA, rfl, hBA, hmA, hA, hb⟩
  have HB4 := Lib.hid (And.intro (below_step HB3.out.1 hb) (below_step HB3.out.2 hb))
  have HA := Lib.hid hA
  clear hb hA hBA hmA nq1 nq2
  have HCT := Lib.hid (targets_at (HF.out.1.below HB4.out.2) HF.out.2.2.1 (by omega))
  go_wp2_with fail
  refine HCT.out.mono ?_
  clear HCT
  rintro e W5 ⟨BT, mT, rfl, hBT, hmT, hT, hb⟩
  have HB5 := Lib.hid (And.intro (below_step HB4.out.1 hb) (below_step HB4.out.2 hb))
  have HM := Lib.hid (And.intro (HA.out.below hb) hT)
  clear hb hT hBT hmT HA
  go_wp2_with fail
  go_loopw [12, 13, 45] (fun u v i V => ∃ t : Nat, t ≤ n ∧ u = .int .i64 ((cntF (isNm l) t : Nat) : Int) ∧ v = .int .i64 ((cntF (isTg l) t : Nat) : Int) ∧ i = .int .i64 (t : Int) ∧ Hid (Below w.heap.size w V ∧ Below W5.heap.size W5 V)) (fun _ _ i _ => n - (intOf i).toNat)
  case atStart => exact ⟨0, Nat.zero_le _, rfl, rfl, rfl, HB5.out.1, Below.refl _ _⟩
  case round =>
    obtain ⟨t, ht, rfl, rfl, rfl, HV⟩ := hrel
    obtain ⟨V, hV⟩ : ∃ z, z = wr := ⟨_, rfl⟩
    subst hV
    by_cases hlt : t < n
    · have dt : (t : Int) < (n : Int) := by omega
      obtain ⟨x, hx⟩ : ∃ z, l[t]? = some z := ⟨l[t]'(by rw [HF.out.1.len]; exact hlt), List.getElem?_eq_getElem _⟩
      have sN := cntF_succ (isNm l) t
      have sT := cntF_succ (isTg l) t
      rw [isNm_at hx] at sN
      rw [isTg_at hx] at sT
      have hkF := fun (h4 : x.kind = 4) => tgF_at (n := n) hx h4 hlt
      obtain ⟨_, ha2, ha3⟩ := HF.out.2.2.1 x (List.mem_of_getElem? hx)
      have lN := cntF_le (isNm l) t
      have lT := cntF_le (isTg l) t
      obtain ⟨a, ha⟩ : ∃ z, cntF (isNm l) t = z := ⟨_, rfl⟩
      obtain ⟨c, hc⟩ : ∃ z, cntF (isTg l) t = z := ⟨_, rfl⟩
      obtain ⟨a', ha'⟩ : ∃ z, cntF (isNm l) (t + 1) = z := ⟨_, rfl⟩
      obtain ⟨c', hc'⟩ : ∃ z, cntF (isTg l) (t + 1) = z := ⟨_, rfl⟩
      rw [ha, ha'] at sN
      rw [hc, hc'] at sT
      rw [ha] at lN
      rw [hc] at lT
      rw [ha, hc]
      have HN2 := Lib.hid (And.intro ha' hc')
      obtain ⟨kd, hkd⟩ : ∃ z, x.kind = z := ⟨_, rfl⟩
      obtain ⟨an, han⟩ : ∃ z, x.anchor = z := ⟨_, rfl⟩
      obtain ⟨vl, hvl⟩ : ∃ z, x.value = z := ⟨_, rfl⟩
      rw [hkd] at hkF sT
      rw [han] at sN ha2
      rw [hvl] at sT ha3 hkF
      have HSN := Lib.hid sN
      have HST := Lib.hid sT
      have HKF := Lib.hid hkF
      have HCL : Hid (∀ U, Below W5.heap.size W5 U → U.cell? ⟨g, t * 10, none⟩ = some (.int .i64 kd) ∧ U.cell? ⟨g, t * 10 + 3, none⟩ = some (.string an) ∧ U.cell? ⟨g, t * 10 + 4, none⟩ = some (.string vl)) := fun U hU => by
        obtain ⟨g1, o1, eA, K1, c1, a1, a2, a3, a4, a5⟩ := (HF.out.1.below (below_step HB5.out.2 hU)).at_ t x hx
        injection eA with eA
        injection eA with e1 e2
        subst e1 e2
        have x0 := a5 0 _ rfl
        have x3 := a5 3 _ rfl
        have x4 := a5 4 _ rfl
        rw [Nat.zero_add] at x0 x3 x4
        rw [Nat.add_zero, hkd] at x0
        rw [han] at x3
        rw [hvl] at x4
        exact ⟨x0, x3, x4⟩
      clear sN sT hkF ha hc ha' hc' hkd han hvl hx
      obtain ⟨x0, x3, x4⟩ := HCL.out V HV.out.2
      have TG : Hid (∀ (s : ByteArray) (U : World), s.size ≤ 1000000 → Below W5.heap.size W5 U → Calls Try.prog 32 #[.slice (some ⟨g, 0, none⟩) n cap, .string s] U fun e w'' => e = .returned (.int .i64 ((ancF l s).getD (-1))) ∧ U = w'') := fun s U hs hU => rtarget_at (HF.out.1.below (below_step HB5.out.2 hU)) HF.out.2.2.1 (by omega) s hs
      have hfirst : (an = ⟨#[]⟩ ∧ a' = a) ∨ (¬ an = ⟨#[]⟩ ∧ ancF l an = some (t : Int) ∧ a' = a + 1) ∨ (¬ an = ⟨#[]⟩ ∧ (ancF l an).getD (-1) ≠ (t : Int) ∧ a' = a) := by
        by_cases h0 : an = ⟨#[]⟩
        · refine .inl ⟨h0, ?_⟩
          rw [HSN.out, if_neg (fun hh => by
            rw [decide_eq_true_iff, h0] at hh
            unfold ancF at hh
            rw [if_pos (show ByteArray.size ⟨#[]⟩ = 0 from rfl)] at hh
            cases hh)]
          rfl
        · by_cases h1 : ancF l an = some (t : Int)
          · exact .inr (.inl ⟨h0, h1, by rw [HSN.out, if_pos (decide_eq_true h1)]⟩)
          · refine .inr (.inr ⟨h0, fun h => ?_, by rw [HSN.out, if_neg (by rw [decide_eq_true_iff]; exact h1)]; rfl⟩)
            cases hA : ancF l an with
            | none => rw [hA] at h; simp only [Option.getD_none] at h; omega
            | some q => rw [hA] at h; simp only [Option.getD_some] at h; subst h; exact h1 hA
      rcases hfirst with ⟨h0, hn⟩ | ⟨h0, hA, hn⟩ | ⟨h0, hA, hn⟩
      · subst h0
        have HAN := Lib.hid hn
        clear hn HSN
        by_cases h4 : kd = 4
        · subst h4
          have hlk2 := mapI_look (HM.out.2.below HV.out.2) (t : Int) (wf_small (by omega) (by omega)) true
          rw [HKF.out rfl] at hlk2
          have CB := Lib.hid (TG.out vl V ha3 HV.out.2)
          cases hA2 : ancF l vl with
          | none =>
            rw [hA2] at hlk2 CB
            simp only [if_true, Option.getD_none, Option.isSome_none] at hlk2
            have HC2 : Hid (c' = c) := by show _ = _; rw [HST.out, hA2]; rfl
            clear hA2
            go_wp2_with fail
            refine CB.out.mono ?_
            clear CB
            rintro e w3 ⟨rfl, rfl⟩
            go_wp2_with fail
            go_roundw
            case rel => exact ⟨t + 1, by omega, by (rw [HN2.out.1, HAN.out] <;> first | rfl | go_num), by (rw [HN2.out.2, HC2.out] <;> first | rfl | go_num), by go_num, HV.out⟩
            case measure => simp [intOf]; omega
          | some m =>
            obtain ⟨_, hm0, hm1, _⟩ := ancF_wf hA2 (by rw [HF.out.1.len]; omega)
            rw [hA2] at hlk2 CB
            simp only [if_true, Option.getD_some, Option.isSome_some] at hlk2 CB
            have HC2 : Hid (c' = c + 1) := by show _ = _; rw [HST.out, hA2]; rfl
            obtain ⟨m, rfl⟩ := Int.eq_ofNat_of_zero_le hm0
            clear hA2 hm0 hm1
            go_wp2_with fail
            refine CB.out.mono ?_
            clear CB
            rintro e w3 ⟨rfl, rfl⟩
            go_wp2_with fail
            go_roundw
            case rel => exact ⟨t + 1, by omega, by (rw [HN2.out.1, HAN.out] <;> first | rfl | go_num), by (rw [HN2.out.2, HC2.out] <;> first | rfl | go_num), by go_num, HV.out⟩
            case measure => simp [intOf]; omega
        · have h4' : (kd != 4) = true := bne_iff_ne.2 h4
          have HC2 : Hid (c' = c) := by show _ = _; rw [HST.out, decide_eq_false h4]; rfl
          go_wp2_with fail
          go_roundw
          case rel => exact ⟨t + 1, by omega, by (rw [HN2.out.1, HAN.out] <;> first | rfl | go_num), by (rw [HN2.out.2, HC2.out] <;> first | rfl | go_num), by go_num, HV.out⟩
          case measure => simp [intOf]; omega
      · have e0 := gne_isEmpty h0
        have hlk := mapS_look1 (HM.out.1.below HV.out.2) an (by omega)
        rw [hA] at hlk
        simp only [Option.getD_some] at hlk
        have HAN := Lib.hid hn
        have CA : Hid (Calls Try.prog 32 #[.slice (some ⟨g, 0, none⟩) n cap, .string an] V fun e w'' => e = .returned (.int .i64 (t : Int)) ∧ V = w'') := (TG.out an V ha2 HV.out.2).mono fun e w'' ⟨h1, h2⟩ => ⟨by rw [h1, hA]; rfl, h2⟩
        clear hn hA HSN
        go_wp2_with fail
        refine CA.out.mono ?_
        rintro e w2 ⟨rfl, rfl⟩
        by_cases h4 : kd = 4
        · subst h4
          have hlk2 := mapI_look (HM.out.2.below HV.out.2) (t : Int) (wf_small (by omega) (by omega)) true
          rw [HKF.out rfl] at hlk2
          have CB := Lib.hid (TG.out vl V ha3 HV.out.2)
          cases hA2 : ancF l vl with
          | none =>
            rw [hA2] at hlk2 CB
            simp only [if_true, Option.getD_none, Option.isSome_none] at hlk2
            have HC2 : Hid (c' = c) := by show _ = _; rw [HST.out, hA2]; rfl
            clear hA2
            go_wp2_with fail
            refine CB.out.mono ?_
            clear CB
            rintro e w3 ⟨rfl, rfl⟩
            go_wp2_with fail
            go_roundw
            case rel => exact ⟨t + 1, by omega, by (rw [HN2.out.1, HAN.out] <;> first | rfl | go_num), by (rw [HN2.out.2, HC2.out] <;> first | rfl | go_num), by go_num, HV.out⟩
            case measure => simp [intOf]; omega
          | some m =>
            obtain ⟨_, hm0, hm1, _⟩ := ancF_wf hA2 (by rw [HF.out.1.len]; omega)
            rw [hA2] at hlk2 CB
            simp only [if_true, Option.getD_some, Option.isSome_some] at hlk2 CB
            have HC2 : Hid (c' = c + 1) := by show _ = _; rw [HST.out, hA2]; rfl
            obtain ⟨m, rfl⟩ := Int.eq_ofNat_of_zero_le hm0
            clear hA2 hm0 hm1
            go_wp2_with fail
            refine CB.out.mono ?_
            clear CB
            rintro e w3 ⟨rfl, rfl⟩
            go_wp2_with fail
            go_roundw
            case rel => exact ⟨t + 1, by omega, by (rw [HN2.out.1, HAN.out] <;> first | rfl | go_num), by (rw [HN2.out.2, HC2.out] <;> first | rfl | go_num), by go_num, HV.out⟩
            case measure => simp [intOf]; omega
        · have h4' : (kd != 4) = true := bne_iff_ne.2 h4
          have HC2 : Hid (c' = c) := by show _ = _; rw [HST.out, decide_eq_false h4]; rfl
          go_wp2_with fail
          go_roundw
          case rel => exact ⟨t + 1, by omega, by (rw [HN2.out.1, HAN.out] <;> first | rfl | go_num), by (rw [HN2.out.2, HC2.out] <;> first | rfl | go_num), by go_num, HV.out⟩
          case measure => simp [intOf]; omega
      · have e0 := gne_isEmpty h0
        have HAN := Lib.hid hn
        obtain ⟨tv, htv⟩ : ∃ z, (ancF l an).getD (-1) = z := ⟨_, rfl⟩
        have CA : Hid (Calls Try.prog 32 #[.slice (some ⟨g, 0, none⟩) n cap, .string an] V fun e w'' => e = .returned (.int .i64 tv) ∧ V = w'') := (TG.out an V ha2 HV.out.2).mono fun e w'' ⟨h1, h2⟩ => ⟨by rw [h1, htv], h2⟩
        rw [htv] at hA
        have e1 : (tv == (t : Int)) = false := beq_eq_false_iff_ne.2 hA
        clear hn htv HSN
        go_wp2_with fail
        refine CA.out.mono ?_
        rintro e w2 ⟨rfl, rfl⟩
        by_cases h4 : kd = 4
        · subst h4
          have hlk2 := mapI_look (HM.out.2.below HV.out.2) (t : Int) (wf_small (by omega) (by omega)) true
          rw [HKF.out rfl] at hlk2
          have CB := Lib.hid (TG.out vl V ha3 HV.out.2)
          cases hA2 : ancF l vl with
          | none =>
            rw [hA2] at hlk2 CB
            simp only [if_true, Option.getD_none, Option.isSome_none] at hlk2
            have HC2 : Hid (c' = c) := by show _ = _; rw [HST.out, hA2]; rfl
            clear hA2
            go_wp2_with fail
            refine CB.out.mono ?_
            clear CB
            rintro e w3 ⟨rfl, rfl⟩
            go_wp2_with fail
            go_roundw
            case rel => exact ⟨t + 1, by omega, by (rw [HN2.out.1, HAN.out] <;> first | rfl | go_num), by (rw [HN2.out.2, HC2.out] <;> first | rfl | go_num), by go_num, HV.out⟩
            case measure => simp [intOf]; omega
          | some m =>
            obtain ⟨_, hm0, hm1, _⟩ := ancF_wf hA2 (by rw [HF.out.1.len]; omega)
            rw [hA2] at hlk2 CB
            simp only [if_true, Option.getD_some, Option.isSome_some] at hlk2 CB
            have HC2 : Hid (c' = c + 1) := by show _ = _; rw [HST.out, hA2]; rfl
            obtain ⟨m, rfl⟩ := Int.eq_ofNat_of_zero_le hm0
            clear hA2 hm0 hm1
            go_wp2_with fail
            refine CB.out.mono ?_
            clear CB
            rintro e w3 ⟨rfl, rfl⟩
            go_wp2_with fail
            go_roundw
            case rel => exact ⟨t + 1, by omega, by (rw [HN2.out.1, HAN.out] <;> first | rfl | go_num), by (rw [HN2.out.2, HC2.out] <;> first | rfl | go_num), by go_num, HV.out⟩
            case measure => simp [intOf]; omega
        · have h4' : (kd != 4) = true := bne_iff_ne.2 h4
          have HC2 : Hid (c' = c) := by show _ = _; rw [HST.out, decide_eq_false h4]; rfl
          go_wp2_with fail
          go_roundw
          case rel => exact ⟨t + 1, by omega, by (rw [HN2.out.1, HAN.out] <;> first | rfl | go_num), by (rw [HN2.out.2, HC2.out] <;> first | rfl | go_num), by go_num, HV.out⟩
          case measure => simp [intOf]; omega
    · obtain rfl : t = n := by omega
      have hl1 := lenNm (HM.out.1.below HV.out.2) (by rw [HF.out.1.len]; omega) 3
      have hl2 := lenTg (HM.out.2.below HV.out.2) HF.out.1.len 3
      rw [HF.out.1.len] at hl1 hl2
      obtain ⟨a, ha⟩ : ∃ z, cntF (isNm l) t = z := ⟨_, rfl⟩
      obtain ⟨c, hc⟩ : ∃ z, cntF (isTg l) t = z := ⟨_, rfl⟩
      rw [ha] at hl1
      rw [hc] at hl2
      rw [ha, hc]
      clear ha hc
      go_wp2_with fail
      refine (cwakes_at V).mono ?_
      rintro e Z1 ⟨rfl, hz1⟩
      have HZ1 := Lib.hid (below_step HV.out.1 hz1)
      clear hz1
      go_wp2_with fail
      go_ret
      exact ⟨rfl, HZ1.out⟩


set_option maxRecDepth 100000 in
theorem lifted (os : Os) (started : os.Started) (H : Type) (enc : TypeId × Value → H) :
    ReturnsInHanded {} Try.checked os 5 .any (Rows.checkTellsSpec.pre6 enc Try.prog Try.f5 Rows.checkTellsRow.domain false) (Rows.checkTellsSpec.post enc Try.prog Try.f5 false true false false) := by
  refine returnsInHanded_of_change (C := Try.checked) own started (by kernel_rfl) Try.func5
    (ChangeSpec.witness6 (enc := enc) (C := Try.checked) false ⟨#[], #[.agg #[.slice none 0 0, .slice none 0 0], .slice none 0 0], []⟩ 8 (by kernel_rfl) (by kernel_rfl) (by kernel_rfl) (by kernel_rfl)) ?_
  intro W base args ds gs before hval0 hW hcnd _
  have hval : ∀ (j : Nat) t v, Try.f5.params[j]? = some t → args[j]? = some v → Value.okWide Try.prog W .any base t v := hval0
  have hW' := hW
  obtain ⟨p, q, hA0, hV, rfl, hfz, hnd⟩ := hW
  have hA : DataW.TrodAll enc Try.prog W 0 (fun _ => true) true Try.f5.params.toList args.toList ds p := hA0
  rw [Try.params5] at hA hval
  obtain ⟨v0, vs0, d0, ds0, p0, q0, hargs, rfl, rfl, h0, r0⟩ := trodAll_cons hA
  obtain ⟨v1, vs1, d1, ds1, p1, q1, rfl, rfl, rfl, h1, r1⟩ := trodAll_cons r0
  obtain ⟨rfl, rfl, rfl⟩ := trodAll_nil r1
  obtain rfl : args = #[v0, v1] := by cases args; simp_all
  obtain ⟨rfl, rfl⟩ := trodVars_none hV
  have k0 := h0
  have lt0 : ∀ x ∈ p0, x.block < W.heap.size := by obtain ⟨m, hm⟩ := k0; exact DataW.trod_lt m _ _ _ hm
  have w0 := open_plan (hval 0 25 v0 rfl rfl) h0
  obtain ⟨a1, len1, cap1, rfl⟩ := okWide_slice Try.underlying22 (hval 1 22 v1 rfl rfl)
  have k1 := h1
  have lt1 : ∀ x ∈ p1, x.block < W.heap.size := by obtain ⟨m, hm⟩ := k1; exact DataW.trod_lt m _ _ _ hm
  obtain ⟨z1, w1⟩ : ∃ zs, IsRow .i64 W a1 len1 cap1 zs := by
    obtain ⟨fuel, hf⟩ := h1
    rcases open_ints Try.underlying22 Try.underlying3 (by kernel_rfl) hf with ⟨hcs, _⟩ | ⟨x, l, c, zs, hcs, _, hl, hm, hz, _, hcell, hwz⟩
    · simp [Value.cells] at hcs
      obtain ⟨rfl, rfl, rfl⟩ := hcs
      exact ⟨[], .inl ⟨rfl, rfl, rfl, rfl⟩⟩
    · simp [Value.cells] at hcs
      obtain ⟨rfl, rfl, rfl⟩ := hcs
      exact ⟨zs, .inr ⟨_, rfl, hl, hm, by simpa using hz, hcell, hwz⟩⟩
  clear hA0 hval0
  refine (walk v0 a1 len1 cap1 z1 W w0 w1).mono fun e W' ⟨he, bel⟩ => ?_
  subst he
  exact ⟨_, rfl, _, _, _, [], _, [], hW', trodAll_mk1 (shut_bool Try.underlying4 _), (trodAll_cons_mk (Below.trod laidOut (by kernel_rfl) (of_decide_eq_true (by kernel_rfl)) k0 bel lt0) (trodAll_cons_mk (Below.trod laidOut (by kernel_rfl) (of_decide_eq_true (by kernel_rfl)) k1 bel lt1) trodAll_mk0)), rfl, bel.frame _, fun h => by cases h⟩

theorem over : Rows.checkTellsRow.holds Try.pinned (OpenSpec.ofChange Rows.checkTellsSpec) :=
  OpenClaim.holds_of_wide 5 Try.f5 rfl rfl rfl rfl rfl rfl rfl ⟨rfl, rfl, rfl, rfl, rfl⟩ rfl rfl rfl rfl rfl (by kernel_rfl) Try.func5 (by kernel_rfl)
    (of_decide_eq_true (by kernel_rfl)) (by unfold Func.isWrapper; first | (rw [if_pos (by decide +kernel)]; kernel_rfl) | (rw [if_neg (by decide +kernel)]; exact ⟨rfl, rfl⟩))
    (fun os started H enc _ => lifted os started H enc)

theorem proved : Rows.CheckTellsSaid := over
#print axioms proved
end Go.Proofs.Ytcddlconcngjlaa.checkTells
