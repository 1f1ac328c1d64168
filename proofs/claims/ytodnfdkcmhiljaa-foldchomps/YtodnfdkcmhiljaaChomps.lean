/-
  Proved: the law 'scholium/scholiumlaw07.FoldChomps' returns true for every input, and every argument reads as it did before. No conditions.
-/
import Derived.Test.YtodnfdkcmhiljaaRows
import Derived.Test.YtodnfdkcmhiljaaFdRows
import Derived.Test.YtodnfdkcmhiljaaKeep
import Derived.WalkKit
import Derived.ProofKit
import Derived.OpenShut
import Derived.ShutString
import Derived.ChangeOld
import Derived.Below
namespace Go.Proofs.Ytodnfdkcmhiljaa.foldChomps
open Go.ChangeShapes Go.WideShapes Go.ChangeAt Go.RowKit
open Go.ChangeMaps (open_string shut_string)
set_option linter.unusedVariables false

theorem own : ownKnob Try.prog.godebug = none := by kernel_rfl
theorem laidOut : laidOutB Try.prog = true := by kernel_rfl

/-- A slice of integers that came in. -/
def IsRow (k : IntKind) (w : World) (a : Option Addr) (len cap : Nat) (zs : List Int) : Prop :=
  (a = none ∧ len = 0 ∧ cap = 0 ∧ zs = []) ∨
  ∃ x, a = some x ∧ len ≤ cap ∧ cap ≤ maxLen ∧ zs.length = cap ∧ (∀ i, i < zs.length → w.cell? (x.add i) = some (.int k (zs.getD i 0))) ∧ ∀ n ∈ zs, (Lit.int k n).wf = true

theorem brs_take (n : Nat) (h : n < 4) : byt ((⟨#[10, 10, 10]⟩ : ByteArray).extract 0 n) = brs n := by
  rw [byt_extract]
  match n, h with
  | 0, _ => decide
  | 1, _ => decide
  | 2, _ => decide
  | 3, _ => decide
/-- The text of the rows, without what stands behind the last one that is not empty. -/
def txtF (fo : Bool) (l : List (List Int)) : List Int := if fo = true then foldF [] 0 (l ++ [[120]]) else joinF (l ++ [[120]])
theorem txt_last (fo : Bool) (l : List (List Int)) : ∃ p, txtF fo l = p ++ [120] := by
  unfold txtF
  split
  · exact foldF_last [120] (by simp) l [] 0
  · exact ⟨brkd l, joinF_snoc [120] l⟩
theorem txt_len (fo : Bool) (l : List (List Int)) (h : ∀ r ∈ l, r.length ≤ 1000) (hl : l.length ≤ 100) : (txtF fo l).length ≤ 200000 := by
  have h' : ∀ r ∈ l ++ [[120]], r.length ≤ 1000 := by
    intro r hr
    rcases List.mem_append.1 hr with g | g
    · exact h r g
    · simp at g; subst g; simp
  unfold txtF
  split
  · have := folded_len 1000 _ h'; simp only [List.length_append, List.length_cons, List.length_nil] at this; omega
  · have := join_len 1000 _ h'; simp only [List.length_append, List.length_cons, List.length_nil] at this; omega
theorem chomp (fo st ke : Bool) (l : List ByteArray) (n : Nat) : valueF ⟨fo, st, ke, 0⟩ ((l ++ [(⟨#[120]⟩ : ByteArray)] ++ List.replicate n (⟨#[]⟩ : ByteArray)).map byt) = txtF fo (l.map byt) ++ brs (endN ⟨fo, st, ke, 0⟩ (l.length + 1) n) := by
  have := value_ends ⟨fo, st, ke, 0⟩ (l.map byt) [120] (by simp) n
  rw [List.length_map] at this
  rw [List.map_append, List.map_append, List.map_replicate]
  exact this

theorem last_of (s : ByteArray) (p : List Int) (h : byt s = p ++ [120]) (h0 : 0 < s.size) : (s[s.size - 1].toNat : Int) = 120 := by
  have h1 := byt_at s (s.size - 1) (by omega)
  have h2 : s.size = p.length + 1 := by rw [← byt_len, h]; simp
  rw [h] at h1
  have h3 : (p ++ [(120 : Int)])[s.size - 1]? = some 120 := by rw [h2]; simp
  rw [h3] at h1
  injection h1 with h1
  exact h1.symm
set_option maxHeartbeats 4000000 in
set_option maxRecDepth 100000 in
theorem walk (a0 : Option Addr) (len0 cap0 : Nat) (z0 : List ByteArray) (a1 : Bool) (a2 : Int) (w : World) (w0 : IsTxs w a0 len0 cap0 z0) (w2 : (Lit.int .i64 a2).wf = true) :
    Calls Try.prog 11 #[.slice a0 len0 cap0, .bool a1, .int .i64 a2] w fun e w' => e = .returned (.bool true) ∧ Below w.heap.size w w' := by
  have HT := Lib.hid w0
  have hlc : len0 ≤ cap0 := w0.2.2.2.1
  have hcm : cap0 ≤ 9223372036854775807 := w0.2.2.2.2.1
  have hb2 := bounds_i64 w2
  clear w0 w2
  go_enter Try.func11, Try.ntmps11
  go_wp2_with fail
  go_loopw [7, 8] (fun v i W => ∃ (j m cap : Nat) (A : Option Addr) (l : List ByteArray), j ≤ 8 ∧ j ≤ len0 ∧ m ≤ j ∧ v = .slice A m cap ∧ i = .int .i64 (j : Int) ∧ Hid (Txs w W A m cap l)) (fun _ i _ => 8 - (intOf i).toNat)
  case atStart => exact ⟨0, 0, 0, none, [], by omega, by omega, by omega, rfl, rfl, Txs.nil w w (Below.refl _ _)⟩
  case round =>
    obtain ⟨j, m, cap, A, l, hj8, hjl, hm, rfl, rfl, HK⟩ := hrel
    by_cases hlt : j < 8 ∧ j < len0
    · obtain ⟨hk1, hk2⟩ := hlt
      obtain ⟨b, off, rfl, hc⟩ := HT.out.at_ (by omega)
      obtain ⟨s, hs, hcell0⟩ := hc j hk2
      have hcell := cell_keep HK.out.bel hcell0
      have d1 : (j : Int) < (len0 : Int) := by omega
      have d2 : (j : Int) < 8 := by omega
      clear hc hcell0
      go_wp2_with fail
      refine (text_any s 10 _ (by omega) hs).mono ?_
      rintro e w' ⟨t, _, ht, rfl, rfl⟩
      obtain ⟨A2, cap2, W2, hrun, hat⟩ := HK.out.more t (by omega) (by omega) wr.heap.size rfl
      have HRUN := Lib.hid hrun
      have HAT := Lib.hid hat
      clear hrun hat
      go_wp2_with (at_builtin; refine wpList_append_known rfl _ (.tmp 30) 22 rfl _ _ _ _ rfl rfl HRUN.out ?_)
      go_roundw
      case rel => exact ⟨j + 1, m + 1, cap2, A2, l ++ [t], by omega, by omega, by omega, rfl, by go_num, HAT⟩
      case measure => simp [intOf]; omega
    · have hex : decide (j < len0) = false ∨ (decide (j < len0) = true ∧ decide ((j : Int) < 8) = false) := by
        by_cases h : j < len0
        · exact .inr ⟨decide_eq_true h, decide_eq_false (fun h' => hlt ⟨by omega, h⟩)⟩
        · exact .inl (decide_eq_false h)
      obtain ⟨A2, cap2, W2, hrun, hat⟩ := HK.out.more ⟨#[120]⟩ (by decide) (by omega) wr.heap.size rfl
      have HRUN := Lib.hid hrun
      have HAT := Lib.hid hat
      clear hrun hat
      rcases hex with hex | ⟨hex, hex2⟩
      · have hge : ¬ j < len0 := by simpa using hex
        go_wp2_with (at_builtin; refine wpList_append_known rfl _ (.tmp 33) 22 rfl _ _ _ _ rfl rfl HRUN.out ?_)
        refine (within_nat a2 4 W2 (by omega) (by omega) hb2).mono ?_
        rintro e w' ⟨n, hn, rfl, rfl⟩
        clear HRUN
        go_wp2_with fail
        go_loopw [7, 10] (fun v i W => ∃ (k q cap : Nat) (A : Option Addr), k ≤ n ∧ q ≤ 9 + k ∧ v = .slice A q cap ∧ i = .int .i64 (k : Int) ∧ Hid (Txs w W A q cap (l ++ [⟨#[120]⟩] ++ List.replicate k ⟨#[]⟩))) (fun _ i _ => n - (intOf i).toNat)
        case atStart =>
          refine ⟨0, m + 1, cap2, A2, by omega, by omega, rfl, rfl, ?_⟩
          have h := HAT.out
          rw [List.replicate_zero, List.append_nil]
          exact h
        case round =>
          obtain ⟨k, q, cap3, A3, hk, hq, rfl, rfl, HQ⟩ := hrel
          by_cases hkn : k < n
          · have dk : (k : Int) < (n : Int) := by omega
            obtain ⟨A4, cap4, W4, hrun, hat⟩ := HQ.out.more ⟨#[]⟩ (by decide) (by omega) wr.heap.size rfl
            have HRUN := Lib.hid hrun
            have HAT4 := Lib.hid hat
            clear hrun hat
            go_wp2_with (at_builtin; refine wpList_append_known rfl _ (.tmp 43) 22 rfl _ _ _ _ rfl rfl HRUN.out ?_)
            go_roundw
            case rel =>
              refine ⟨k + 1, q + 1, cap4, A4, by omega, by omega, rfl, by go_num, ?_⟩
              have h := HAT4.out
              rw [List.append_assoc] at h
              rw [List.replicate_succ']
              exact h
            case measure => simp [intOf]; omega
          · obtain rfl : k = n := by omega
            have hts := txt_len a1 (l.map byt) (by intro r hr; simp only [List.mem_map] at hr; obtain ⟨s, h1, rfl⟩ := hr; rw [byt_len]; exact HK.out.2 s h1) (by rw [List.length_map, HK.out.1.1]; omega)
            obtain ⟨p, hp⟩ := txt_last a1 (l.map byt)
            have hch := fun st ke => chomp a1 st ke l k
            have HP := Lib.hid (And.intro hts (And.intro hp hch))
            clear hts hp hch
            go_wp2_with fail
            refine (value_txs HQ.out (by omega) ⟨a1, true, false, 0⟩).mono ?_
            rintro e V1 ⟨s1, hs1, rfl, hv1⟩
            have e1 : byt s1 = txtF a1 (l.map byt) := by rw [hs1, HP.out.2.2]; simp [endN, brs]
            have HV1 := Lib.hid hv1
            clear hs1 hv1
            go_wp2_with fail
            refine (value_txs (HQ.out.below HV1.out) (by omega) ⟨a1, false, false, 0⟩).mono ?_
            rintro e V2 ⟨s2, hs2, rfl, hv2⟩
            obtain rfl : s2 = s1 ++ ⟨#[10]⟩ := byt_inj (by rw [hs2, HP.out.2.2, byt_append, e1]; simp [endN, brs, byt])
            have HV2 := Lib.hid (below_step HV1.out hv2)
            clear hs2 hv2
            go_wp2_with fail
            refine (value_txs (HQ.out.below HV2.out) (by omega) ⟨a1, false, true, 0⟩).mono ?_
            rintro e V3 ⟨s3, hs3, rfl, hv3⟩
            obtain rfl : s3 = s1 ++ ⟨#[10]⟩ ++ (⟨#[10, 10, 10]⟩ : ByteArray).extract 0 k := byt_inj (by
              rw [hs3, HP.out.2.2, byt_append, byt_append, e1, brs_take k hn]
              simp [endN, brs, byt, Nat.add_comm 1 k, List.replicate_succ])
            have HV3 := Lib.hid (below_step HV2.out hv3)
            have hsz : s1.size ≤ 200000 := by rw [← byt_len, e1]; exact HP.out.1
            have hs0 : 0 < s1.size := by rw [← byt_len, e1, HP.out.2.1]; simp
            have HE := Lib.hid e1
            clear hs3 hv3 e1
            have hxs : ((⟨#[10, 10, 10]⟩ : ByteArray).extract 0 k).size = k := by rw [← byt_len, brs_take k hn]; simp [brs]
            have HLAST := Lib.hid (last_of s1 p (by rw [HE.out, HP.out.2.1]) hs0)
            go_wp2_with fail
            all_goals first | exact absurd HLAST.out (by assumption) | skip
            refine (wakes_any V3).mono ?_
            rintro e V4 ⟨rfl, hv4⟩
            have HV4 := Lib.hid (below_step (below_step HQ.out.bel HV3.out) hv4)
            clear hv4
            go_wp2
            go_ret
            exact ⟨rfl, HV4.out⟩
      · have hge : j < len0 := by simpa using hex
        have hge8 : ¬ (j : Int) < 8 := by simpa using hex2
        go_wp2_with (at_builtin; refine wpList_append_known rfl _ (.tmp 33) 22 rfl _ _ _ _ rfl rfl HRUN.out ?_)
        refine (within_nat a2 4 W2 (by omega) (by omega) hb2).mono ?_
        rintro e w' ⟨n, hn, rfl, rfl⟩
        clear HRUN
        go_wp2_with fail
        go_loopw [7, 10] (fun v i W => ∃ (k q cap : Nat) (A : Option Addr), k ≤ n ∧ q ≤ 9 + k ∧ v = .slice A q cap ∧ i = .int .i64 (k : Int) ∧ Hid (Txs w W A q cap (l ++ [⟨#[120]⟩] ++ List.replicate k ⟨#[]⟩))) (fun _ i _ => n - (intOf i).toNat)
        case atStart =>
          refine ⟨0, m + 1, cap2, A2, by omega, by omega, rfl, rfl, ?_⟩
          have h := HAT.out
          rw [List.replicate_zero, List.append_nil]
          exact h
        case round =>
          obtain ⟨k, q, cap3, A3, hk, hq, rfl, rfl, HQ⟩ := hrel
          by_cases hkn : k < n
          · have dk : (k : Int) < (n : Int) := by omega
            obtain ⟨A4, cap4, W4, hrun, hat⟩ := HQ.out.more ⟨#[]⟩ (by decide) (by omega) wr.heap.size rfl
            have HRUN := Lib.hid hrun
            have HAT4 := Lib.hid hat
            clear hrun hat
            go_wp2_with (at_builtin; refine wpList_append_known rfl _ (.tmp 43) 22 rfl _ _ _ _ rfl rfl HRUN.out ?_)
            go_roundw
            case rel =>
              refine ⟨k + 1, q + 1, cap4, A4, by omega, by omega, rfl, by go_num, ?_⟩
              have h := HAT4.out
              rw [List.append_assoc] at h
              rw [List.replicate_succ']
              exact h
            case measure => simp [intOf]; omega
          · obtain rfl : k = n := by omega
            have hts := txt_len a1 (l.map byt) (by intro r hr; simp only [List.mem_map] at hr; obtain ⟨s, h1, rfl⟩ := hr; rw [byt_len]; exact HK.out.2 s h1) (by rw [List.length_map, HK.out.1.1]; omega)
            obtain ⟨p, hp⟩ := txt_last a1 (l.map byt)
            have hch := fun st ke => chomp a1 st ke l k
            have HP := Lib.hid (And.intro hts (And.intro hp hch))
            clear hts hp hch
            go_wp2_with fail
            refine (value_txs HQ.out (by omega) ⟨a1, true, false, 0⟩).mono ?_
            rintro e V1 ⟨s1, hs1, rfl, hv1⟩
            have e1 : byt s1 = txtF a1 (l.map byt) := by rw [hs1, HP.out.2.2]; simp [endN, brs]
            have HV1 := Lib.hid hv1
            clear hs1 hv1
            go_wp2_with fail
            refine (value_txs (HQ.out.below HV1.out) (by omega) ⟨a1, false, false, 0⟩).mono ?_
            rintro e V2 ⟨s2, hs2, rfl, hv2⟩
            obtain rfl : s2 = s1 ++ ⟨#[10]⟩ := byt_inj (by rw [hs2, HP.out.2.2, byt_append, e1]; simp [endN, brs, byt])
            have HV2 := Lib.hid (below_step HV1.out hv2)
            clear hs2 hv2
            go_wp2_with fail
            refine (value_txs (HQ.out.below HV2.out) (by omega) ⟨a1, false, true, 0⟩).mono ?_
            rintro e V3 ⟨s3, hs3, rfl, hv3⟩
            obtain rfl : s3 = s1 ++ ⟨#[10]⟩ ++ (⟨#[10, 10, 10]⟩ : ByteArray).extract 0 k := byt_inj (by
              rw [hs3, HP.out.2.2, byt_append, byt_append, e1, brs_take k hn]
              simp [endN, brs, byt, Nat.add_comm 1 k, List.replicate_succ])
            have HV3 := Lib.hid (below_step HV2.out hv3)
            have hsz : s1.size ≤ 200000 := by rw [← byt_len, e1]; exact HP.out.1
            have hs0 : 0 < s1.size := by rw [← byt_len, e1, HP.out.2.1]; simp
            have HE := Lib.hid e1
            clear hs3 hv3 e1
            have hxs : ((⟨#[10, 10, 10]⟩ : ByteArray).extract 0 k).size = k := by rw [← byt_len, brs_take k hn]; simp [brs]
            have HLAST := Lib.hid (last_of s1 p (by rw [HE.out, HP.out.2.1]) hs0)
            go_wp2_with fail
            all_goals first | exact absurd HLAST.out (by assumption) | skip
            refine (wakes_any V3).mono ?_
            rintro e V4 ⟨rfl, hv4⟩
            have HV4 := Lib.hid (below_step (below_step HQ.out.bel HV3.out) hv4)
            clear hv4
            go_wp2
            go_ret
            exact ⟨rfl, HV4.out⟩


set_option maxRecDepth 100000 in
theorem lifted (os : Os) (started : os.Started) (H : Type) (enc : TypeId × Value → H) :
    ReturnsInHanded {} Try.checked os 11 .any (Rows.foldChompsSpec.pre6 enc Try.prog Try.f11 Rows.foldChompsRow.domain false) (Rows.foldChompsSpec.post enc Try.prog Try.f11 false true false false) := by
  refine returnsInHanded_of_change (C := Try.checked) own started (by kernel_rfl) Try.func11
    (ChangeSpec.witness6 (enc := enc) (C := Try.checked) false ⟨#[], #[.slice none 0 0, .bool false, .int .i64 0], []⟩ 8 (by kernel_rfl) (by kernel_rfl) (by kernel_rfl) (by kernel_rfl)) ?_
  intro W base args ds gs before hval0 hW hcnd _
  have hval : ∀ (j : Nat) t v, Try.f11.params[j]? = some t → args[j]? = some v → Value.okWide Try.prog W .any base t v := hval0
  have hW' := hW
  obtain ⟨p, q, hA0, hV, rfl, hfz, hnd⟩ := hW
  have hA : DataW.TrodAll enc Try.prog W 0 (fun _ => true) true Try.f11.params.toList args.toList ds p := hA0
  rw [Try.params11] at hA hval
  obtain ⟨v0, vs0, d0, ds0, p0, q0, hargs, rfl, rfl, h0, r0⟩ := trodAll_cons hA
  obtain ⟨v1, vs1, d1, ds1, p1, q1, rfl, rfl, rfl, h1, r1⟩ := trodAll_cons r0
  obtain ⟨v2, vs2, d2, ds2, p2, q2, rfl, rfl, rfl, h2, r2⟩ := trodAll_cons r1
  obtain ⟨rfl, rfl, rfl⟩ := trodAll_nil r2
  obtain rfl : args = #[v0, v1, v2] := by cases args; simp_all
  obtain ⟨rfl, rfl⟩ := trodVars_none hV
  obtain ⟨a0, len0, cap0, rfl⟩ := okWide_slice Try.underlying22 (hval 0 22 v0 rfl rfl)
  have k0 := h0
  have lt0 : ∀ x ∈ p0, x.block < W.heap.size := by obtain ⟨m, hm⟩ := k0; exact DataW.trod_lt m _ _ _ hm
  obtain ⟨z0, w0⟩ := open_texts h0
  obtain ⟨a1, rfl, rfl, rfl⟩ := open_bool Try.underlying4 (hval 1 4 v1 rfl rfl) h1
  obtain ⟨a2, rfl, rfl, rfl, w2⟩ := open_int Try.underlying3 (hval 2 3 v2 rfl rfl) h2
  clear hA0 hval0
  refine (walk a0 len0 cap0 z0 a1 a2 W w0 w2).mono fun e W' ⟨he, bel⟩ => ?_
  subst he
  exact ⟨_, rfl, _, _, _, [], _, [], hW', trodAll_mk1 (shut_bool Try.underlying4 _), (trodAll_cons_mk (Below.trod laidOut (by kernel_rfl) (of_decide_eq_true (by kernel_rfl)) k0 bel lt0) (trodAll_cons_mk (shut_bool Try.underlying4 _) (trodAll_cons_mk (shut_int Try.underlying3 w2) trodAll_mk0))), rfl, bel.frame _, fun h => by cases h⟩

theorem over : Rows.foldChompsRow.holds Try.pinned (OpenSpec.ofChange Rows.foldChompsSpec) :=
  OpenClaim.holds_of_wide 11 Try.f11 rfl rfl rfl rfl rfl rfl rfl ⟨rfl, rfl, rfl, rfl, rfl⟩ rfl rfl rfl rfl rfl (by kernel_rfl) Try.func11 (by kernel_rfl)
    (of_decide_eq_true (by kernel_rfl)) (by unfold Func.isWrapper; first | (rw [if_pos (by decide +kernel)]; kernel_rfl) | (rw [if_neg (by decide +kernel)]; exact ⟨rfl, rfl⟩))
    (fun os started H enc _ => lifted os started H enc)

theorem proved : Rows.FoldChompsSaid := over
#print axioms proved
end Go.Proofs.Ytodnfdkcmhiljaa.foldChomps
