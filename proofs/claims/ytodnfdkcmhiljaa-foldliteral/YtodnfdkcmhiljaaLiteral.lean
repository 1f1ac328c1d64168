/-
  Proved: the law 'scholium/scholiumlaw07.FoldLiteral' returns true for every input, and every argument reads as it did before. No conditions.
-/
import Derived.Test.YtodnfdkcmhiljaaRows
import Derived.Test.YtodnfdkcmhiljaaFdRows
import Derived.Test.YtodnfdkcmhiljaaKeep
import Derived.WalkKit
import Derived.ProofKit
import Derived.OpenShut
import Derived.ShutString
import Derived.ChangeOld
import Derived.Below
namespace Go.Proofs.Ytodnfdkcmhiljaa.foldLiteral
open Go.ChangeShapes Go.WideShapes Go.ChangeAt Go.RowKit
open Go.ChangeMaps (open_string shut_string)
set_option linter.unusedVariables false

theorem own : ownKnob Try.prog.godebug = none := by kernel_rfl
theorem laidOut : laidOutB Try.prog = true := by kernel_rfl

/-- A slice of integers that came in. -/
def IsRow (k : IntKind) (w : World) (a : Option Addr) (len cap : Nat) (zs : List Int) : Prop :=
  (a = none ∧ len = 0 ∧ cap = 0 ∧ zs = []) ∨
  ∃ x, a = some x ∧ len ≤ cap ∧ cap ≤ maxLen ∧ zs.length = cap ∧ (∀ i, i < zs.length → w.cell? (x.add i) = some (.int k (zs.getD i 0))) ∧ ∀ n ∈ zs, (Lit.int k n).wf = true

theorem brkd_snoc (l : List (List Int)) (x : List Int) : brkd (l ++ [x]) = brkd l ++ (x ++ [10]) := by simp [brkd]
theorem literal (st ke : Bool) (l : List ByteArray) (x : ByteArray) (hx : byt x ≠ []) (n : Nat) : valueF ⟨false, st, ke, 0⟩ ((l ++ [x] ++ List.replicate n (⟨#[]⟩ : ByteArray)).map byt) = brkd (l.map byt) ++ byt x ++ brs (endN ⟨false, st, ke, 0⟩ (l.length + 1) n) := by
  have := value_ends ⟨false, st, ke, 0⟩ (l.map byt) (byt x) hx n
  rw [List.length_map] at this
  rw [List.map_append, List.map_append, List.map_replicate]
  refine Eq.trans this ?_
  simp only [Bool.false_eq_true, if_false]
  rw [joinF_snoc]

set_option maxHeartbeats 4000000 in
set_option maxRecDepth 100000 in
theorem walk (a0 : Option Addr) (len0 cap0 : Nat) (z0 : List ByteArray) (a1 : ByteArray) (w : World) (w0 : IsTxs w a0 len0 cap0 z0) (w1 : a1.size ≤ maxLen) :
    Calls Try.prog 9 #[.slice a0 len0 cap0, .string a1] w fun e w' => e = .returned (.bool true) ∧ Below w.heap.size w w' := by
  have HT := Lib.hid w0
  have hlc : len0 ≤ cap0 := w0.2.2.2.1
  have hcm : cap0 ≤ 9223372036854775807 := w0.2.2.2.2.1
  clear w0
  go_enter Try.func9, Try.ntmps9
  go_wp2_with fail
  go_loopw [5, 6, 7] (fun v s i W => ∃ (j m cap : Nat) (A : Option Addr) (u : ByteArray) (l : List ByteArray), j ≤ 8 ∧ j ≤ len0 ∧ v = .slice A m cap ∧ s = .string u ∧ i = .int .i64 (j : Int) ∧ u.size ≤ j * 13 ∧ Hid (m = j ∧ byt u = brkd (l.map byt) ∧ Txs w W A m cap l)) (fun _ _ i _ => 8 - (intOf i).toNat)
  case atStart => exact ⟨0, 0, 0, none, ⟨#[]⟩, [], by omega, by omega, rfl, rfl, rfl, by decide, rfl, rfl, Txs.nil w w (Below.refl _ _)⟩
  case round =>
    obtain ⟨j, m, cap, A, u, l, hj8, hjl, rfl, rfl, rfl, hus, HK⟩ := hrel
    have hm8 : m ≤ 8 := by have := HK.out.1; omega
    have hjm : j < m + 1 := by have := HK.out.1; omega
    by_cases hlt : j < 8 ∧ j < len0
    · obtain ⟨hk1, hk2⟩ := hlt
      obtain ⟨b, off, rfl, hc⟩ := HT.out.at_ (by omega)
      obtain ⟨s, hs, hcell0⟩ := hc j hk2
      have hcell := cell_keep HK.out.2.2.bel hcell0
      have d1 : (j : Int) < (len0 : Int) := by omega
      have d2 : (j : Int) < 8 := by omega
      clear hc hcell0
      go_wp2_with fail
      refine (text_any s 12 _ (by omega) hs).mono ?_
      rintro e w' ⟨t, _, ht, rfl, rfl⟩
      obtain ⟨A2, cap2, W2, hrun, hat⟩ := HK.out.2.2.more t (by omega) (by omega) wr.heap.size rfl
      obtain ⟨b2, off2, hA2, hc2⟩ := hat.1.rd.addr (by simp)
      subst hA2
      have hcl : W2.cell? ⟨b2, off2 + j, none⟩ = some (.string t) := hc2 j _ (by
        have h1 := HK.out.2.2.1.1
        rw [List.getElem?_map, List.getElem?_append_right (by rw [h1, HK.out.1]; exact Nat.le_refl _), h1, HK.out.1]; simp)
      have HRUN := Lib.hid hrun
      have HAT := Lib.hid hat
      clear hrun hat hc2
      have djm : (j : Int) < (m : Int) + 1 := by omega
      go_wp2_with (at_builtin; refine wpList_append_known rfl _ (.tmp 27) 22 rfl _ _ _ _ rfl rfl HRUN.out ?_)
      go_roundw
      case rel =>
        refine ⟨j + 1, m + 1, cap2, _, u ++ (t ++ ⟨#[10]⟩), l ++ [t], by omega, by omega, rfl, rfl, by go_num, ?_, ?_, ?_, HAT.out⟩
        · rw [ByteArray.size_append, ByteArray.size_append]; show u.size + (t.size + 1) ≤ _; omega
        · have := HK.out.1; omega
        · rw [byt_append, byt_append, HK.out.2.1, List.map_append]
          exact (brkd_snoc _ _).symm
      case measure => simp [intOf]; omega
    · have hex : decide (j < len0) = false ∨ (decide (j < len0) = true ∧ decide ((j : Int) < 8) = false) := by
        by_cases h : j < len0
        · exact .inr ⟨decide_eq_true h, decide_eq_false (fun h' => hlt ⟨by omega, h⟩)⟩
        · exact .inl (decide_eq_false h)
      rcases hex with hex | ⟨hex, hex2⟩
      · have hge : ¬ j < len0 := by simpa using hex
        go_wp2_with fail
        refine (text_any a1 9 _ (by omega) w1).mono ?_
        rintro e w' ⟨t, _, ht, rfl, rfl⟩
        obtain ⟨x, hx⟩ : ∃ x, (⟨#[120]⟩ : ByteArray) ++ t = x := ⟨_, rfl⟩
        have hxs : x.size ≤ 10 := by rw [← hx, ByteArray.size_append]; show 1 + t.size ≤ 10; omega
        have hxn : byt x ≠ [] := by rw [← hx, byt_append]; simp [byt]
        obtain ⟨y, hy⟩ : ∃ y, u ++ x = y := ⟨_, rfl⟩
        have hys : y.size ≤ 200 := by rw [← hy, ByteArray.size_append]; omega
        have hyb : byt y = brkd (l.map byt) ++ byt x := by rw [← hy, byt_append, HK.out.2.1]
        have hux : u.size + x.size ≤ 200 := by omega
        obtain ⟨A2, cap2, W2, hrun, hat⟩ := HK.out.2.2.more x (by omega) (by omega) wr.heap.size rfl
        have HRUN := Lib.hid hrun
        have HAT := Lib.hid hat
        have HX := Lib.hid (And.intro hxn hyb)
        clear hrun hat hxn hyb
        obtain ⟨N, hN, hN4⟩ : ∃ N : Nat, (len0 : Int).tmod 4 = (N : Int) ∧ N < 4 := ⟨len0 % 4, by rw [Int.tmod_eq_emod_of_nonneg (by omega)]; omega, by omega⟩
        have HXE := Lib.hid hx
        have HYE := Lib.hid hy
        clear hx hy
        go_wp2_with (first | (at_builtin; refine wpList_append_known rfl _ (.tmp 41) 22 rfl _ (.slice (some ⟨wr.heap.size, 0, none⟩) 1 1) _ _ rfl rfl ((by rw [HXE.out]; exact HRUN.out)) ?_))
        rw [HXE.out, HYE.out]
        clear HRUN HXE HYE
        go_loopw [5, 8] (fun v i W => ∃ (k q cap : Nat) (A : Option Addr), k ≤ N ∧ q ≤ 9 + k ∧ v = .slice A q cap ∧ i = .int .i64 (k : Int) ∧ Hid (Txs w W A q cap (l ++ [x] ++ List.replicate k ⟨#[]⟩))) (fun _ i _ => N - (intOf i).toNat)
        case atStart =>
          refine ⟨0, m + 1, cap2, A2, by omega, by omega, rfl, rfl, ?_⟩
          have h := HAT.out
          rw [List.replicate_zero, List.append_nil]
          exact h
        case round =>
          obtain ⟨k, q, cap3, A3, hk, hq, rfl, rfl, HQ⟩ := hrel
          by_cases hkn : k < N
          · have dk : (k : Int) < (N : Int) := by omega
            obtain ⟨A4, cap4, W4, hrun, hat⟩ := HQ.out.more ⟨#[]⟩ (by decide) (by omega) wr.heap.size rfl
            have HRUN := Lib.hid hrun
            have HAT4 := Lib.hid hat
            clear hrun hat
            go_wp2_with (at_builtin; refine wpList_append_known rfl _ (.tmp 52) 22 rfl _ _ _ _ rfl rfl HRUN.out ?_)
            go_roundw
            case rel =>
              refine ⟨k + 1, q + 1, cap4, A4, by omega, by omega, rfl, by go_num, ?_⟩
              have h := HAT4.out
              rw [List.append_assoc] at h
              rw [List.replicate_succ']
              exact h
            case measure => simp [intOf]; omega
          · obtain rfl : k = N := by omega
            have dk : decide ((k : Int) < (k : Int)) = false := decide_eq_false (by omega)
            go_wp2_with fail
            clear hN dk
            go_loop [9, 10] (fun s i => ∃ (c : Nat) (v : ByteArray), c ≤ k ∧ s = .string v ∧ i = .int .i64 (c : Int) ∧ v.size ≤ 201 + c ∧ Hid (byt v = byt y ++ brs (1 + c))) (fun _ i => k - (intOf i).toNat)
            case atStart =>
              refine ⟨0, y ++ ⟨#[10]⟩, by omega, rfl, rfl, ?_, ?_⟩
              · rw [ByteArray.size_append]; show y.size + 1 ≤ _; omega
              · rw [byt_append]; rfl
            case round =>
              obtain ⟨c, v, hc, rfl, rfl, hvs, HV⟩ := hrel
              by_cases hck : c < k
              · have dc : (c : Int) < (k : Int) := by omega
                go_wp2_with fail
                go_round
                case rel =>
                  refine ⟨c + 1, v ++ ⟨#[10]⟩, by omega, rfl, by go_num, ?_, ?_⟩
                  · rw [ByteArray.size_append]; show v.size + 1 ≤ _; omega
                  · rw [byt_append, HV.out, List.append_assoc, ← Nat.add_assoc]
                    unfold brs
                    rw [List.replicate_succ']
                    rfl
                case measure => simp [intOf]; omega
              · obtain rfl : c = k := by omega
                have hch := fun st ke => literal st ke l x HX.out.1 c
                have HP := Lib.hid hch
                clear hch
                go_wp2_with fail
                refine (value_txs HQ.out (by omega) ⟨false, false, false, 0⟩).mono ?_
                rintro e V1 ⟨s1, hs1, rfl, hv1⟩
                obtain rfl : s1 = y ++ ⟨#[10]⟩ := byt_inj (by rw [hs1, HP.out, byt_append, HX.out.2]; simp [endN, brs, byt])
                have HV1 := Lib.hid hv1
                clear hs1 hv1
                go_wp2_with fail
                refine (value_txs (HQ.out.below HV1.out) (by omega) ⟨false, true, false, 0⟩).mono ?_
                rintro e V2 ⟨s2, hs2, rfl, hv2⟩
                obtain rfl : s2 = y := byt_inj (by rw [hs2, HP.out, HX.out.2]; simp [endN, brs])
                have HV2 := Lib.hid (below_step HV1.out hv2)
                clear hs2 hv2
                go_wp2_with fail
                refine (value_txs (HQ.out.below HV2.out) (by omega) ⟨false, false, true, 0⟩).mono ?_
                rintro e V3 ⟨s3, hs3, rfl, hv3⟩
                obtain rfl : s3 = v := byt_inj (by rw [hs3, HP.out, HV.out, HX.out.2]; simp [endN, brs])
                have HV3 := Lib.hid (below_step HV2.out hv3)
                clear hs3 hv3
                go_wp2_with fail
                refine (wakes_any V3).mono ?_
                rintro e V4 ⟨rfl, hv4⟩
                have HV4 := Lib.hid (below_step (below_step HQ.out.bel HV3.out) hv4)
                clear hv4
                go_wp2
                go_ret
                exact ⟨rfl, HV4.out⟩
      · have hge : j < len0 := by simpa using hex
        have hge8 : ¬ (j : Int) < 8 := by simpa using hex2
        go_wp2_with fail
        refine (text_any a1 9 _ (by omega) w1).mono ?_
        rintro e w' ⟨t, _, ht, rfl, rfl⟩
        obtain ⟨x, hx⟩ : ∃ x, (⟨#[120]⟩ : ByteArray) ++ t = x := ⟨_, rfl⟩
        have hxs : x.size ≤ 10 := by rw [← hx, ByteArray.size_append]; show 1 + t.size ≤ 10; omega
        have hxn : byt x ≠ [] := by rw [← hx, byt_append]; simp [byt]
        obtain ⟨y, hy⟩ : ∃ y, u ++ x = y := ⟨_, rfl⟩
        have hys : y.size ≤ 200 := by rw [← hy, ByteArray.size_append]; omega
        have hyb : byt y = brkd (l.map byt) ++ byt x := by rw [← hy, byt_append, HK.out.2.1]
        have hux : u.size + x.size ≤ 200 := by omega
        obtain ⟨A2, cap2, W2, hrun, hat⟩ := HK.out.2.2.more x (by omega) (by omega) wr.heap.size rfl
        have HRUN := Lib.hid hrun
        have HAT := Lib.hid hat
        have HX := Lib.hid (And.intro hxn hyb)
        clear hrun hat hxn hyb
        obtain ⟨N, hN, hN4⟩ : ∃ N : Nat, (len0 : Int).tmod 4 = (N : Int) ∧ N < 4 := ⟨len0 % 4, by rw [Int.tmod_eq_emod_of_nonneg (by omega)]; omega, by omega⟩
        have HXE := Lib.hid hx
        have HYE := Lib.hid hy
        clear hx hy
        go_wp2_with (first | (at_builtin; refine wpList_append_known rfl _ (.tmp 41) 22 rfl _ (.slice (some ⟨wr.heap.size, 0, none⟩) 1 1) _ _ rfl rfl ((by rw [HXE.out]; exact HRUN.out)) ?_))
        rw [HXE.out, HYE.out]
        clear HRUN HXE HYE
        go_loopw [5, 8] (fun v i W => ∃ (k q cap : Nat) (A : Option Addr), k ≤ N ∧ q ≤ 9 + k ∧ v = .slice A q cap ∧ i = .int .i64 (k : Int) ∧ Hid (Txs w W A q cap (l ++ [x] ++ List.replicate k ⟨#[]⟩))) (fun _ i _ => N - (intOf i).toNat)
        case atStart =>
          refine ⟨0, m + 1, cap2, A2, by omega, by omega, rfl, rfl, ?_⟩
          have h := HAT.out
          rw [List.replicate_zero, List.append_nil]
          exact h
        case round =>
          obtain ⟨k, q, cap3, A3, hk, hq, rfl, rfl, HQ⟩ := hrel
          by_cases hkn : k < N
          · have dk : (k : Int) < (N : Int) := by omega
            obtain ⟨A4, cap4, W4, hrun, hat⟩ := HQ.out.more ⟨#[]⟩ (by decide) (by omega) wr.heap.size rfl
            have HRUN := Lib.hid hrun
            have HAT4 := Lib.hid hat
            clear hrun hat
            go_wp2_with (at_builtin; refine wpList_append_known rfl _ (.tmp 52) 22 rfl _ _ _ _ rfl rfl HRUN.out ?_)
            go_roundw
            case rel =>
              refine ⟨k + 1, q + 1, cap4, A4, by omega, by omega, rfl, by go_num, ?_⟩
              have h := HAT4.out
              rw [List.append_assoc] at h
              rw [List.replicate_succ']
              exact h
            case measure => simp [intOf]; omega
          · obtain rfl : k = N := by omega
            have dk : decide ((k : Int) < (k : Int)) = false := decide_eq_false (by omega)
            go_wp2_with fail
            clear hN dk
            go_loop [9, 10] (fun s i => ∃ (c : Nat) (v : ByteArray), c ≤ k ∧ s = .string v ∧ i = .int .i64 (c : Int) ∧ v.size ≤ 201 + c ∧ Hid (byt v = byt y ++ brs (1 + c))) (fun _ i => k - (intOf i).toNat)
            case atStart =>
              refine ⟨0, y ++ ⟨#[10]⟩, by omega, rfl, rfl, ?_, ?_⟩
              · rw [ByteArray.size_append]; show y.size + 1 ≤ _; omega
              · rw [byt_append]; rfl
            case round =>
              obtain ⟨c, v, hc, rfl, rfl, hvs, HV⟩ := hrel
              by_cases hck : c < k
              · have dc : (c : Int) < (k : Int) := by omega
                go_wp2_with fail
                go_round
                case rel =>
                  refine ⟨c + 1, v ++ ⟨#[10]⟩, by omega, rfl, by go_num, ?_, ?_⟩
                  · rw [ByteArray.size_append]; show v.size + 1 ≤ _; omega
                  · rw [byt_append, HV.out, List.append_assoc, ← Nat.add_assoc]
                    unfold brs
                    rw [List.replicate_succ']
                    rfl
                case measure => simp [intOf]; omega
              · obtain rfl : c = k := by omega
                have hch := fun st ke => literal st ke l x HX.out.1 c
                have HP := Lib.hid hch
                clear hch
                go_wp2_with fail
                refine (value_txs HQ.out (by omega) ⟨false, false, false, 0⟩).mono ?_
                rintro e V1 ⟨s1, hs1, rfl, hv1⟩
                obtain rfl : s1 = y ++ ⟨#[10]⟩ := byt_inj (by rw [hs1, HP.out, byt_append, HX.out.2]; simp [endN, brs, byt])
                have HV1 := Lib.hid hv1
                clear hs1 hv1
                go_wp2_with fail
                refine (value_txs (HQ.out.below HV1.out) (by omega) ⟨false, true, false, 0⟩).mono ?_
                rintro e V2 ⟨s2, hs2, rfl, hv2⟩
                obtain rfl : s2 = y := byt_inj (by rw [hs2, HP.out, HX.out.2]; simp [endN, brs])
                have HV2 := Lib.hid (below_step HV1.out hv2)
                clear hs2 hv2
                go_wp2_with fail
                refine (value_txs (HQ.out.below HV2.out) (by omega) ⟨false, false, true, 0⟩).mono ?_
                rintro e V3 ⟨s3, hs3, rfl, hv3⟩
                obtain rfl : s3 = v := byt_inj (by rw [hs3, HP.out, HV.out, HX.out.2]; simp [endN, brs])
                have HV3 := Lib.hid (below_step HV2.out hv3)
                clear hs3 hv3
                go_wp2_with fail
                refine (wakes_any V3).mono ?_
                rintro e V4 ⟨rfl, hv4⟩
                have HV4 := Lib.hid (below_step (below_step HQ.out.bel HV3.out) hv4)
                clear hv4
                go_wp2
                go_ret
                exact ⟨rfl, HV4.out⟩


set_option maxRecDepth 100000 in
theorem lifted (os : Os) (started : os.Started) (H : Type) (enc : TypeId × Value → H) :
    ReturnsInHanded {} Try.checked os 9 .any (Rows.foldLiteralSpec.pre6 enc Try.prog Try.f9 Rows.foldLiteralRow.domain false) (Rows.foldLiteralSpec.post enc Try.prog Try.f9 false true false false) := by
  refine returnsInHanded_of_change (C := Try.checked) own started (by kernel_rfl) Try.func9
    (ChangeSpec.witness6 (enc := enc) (C := Try.checked) false ⟨#[], #[.slice none 0 0, .string ByteArray.empty], []⟩ 8 (by kernel_rfl) (by kernel_rfl) (by kernel_rfl) (by kernel_rfl)) ?_
  intro W base args ds gs before hval0 hW hcnd _
  have hval : ∀ (j : Nat) t v, Try.f9.params[j]? = some t → args[j]? = some v → Value.okWide Try.prog W .any base t v := hval0
  have hW' := hW
  obtain ⟨p, q, hA0, hV, rfl, hfz, hnd⟩ := hW
  have hA : DataW.TrodAll enc Try.prog W 0 (fun _ => true) true Try.f9.params.toList args.toList ds p := hA0
  rw [Try.params9] at hA hval
  obtain ⟨v0, vs0, d0, ds0, p0, q0, hargs, rfl, rfl, h0, r0⟩ := trodAll_cons hA
  obtain ⟨v1, vs1, d1, ds1, p1, q1, rfl, rfl, rfl, h1, r1⟩ := trodAll_cons r0
  obtain ⟨rfl, rfl, rfl⟩ := trodAll_nil r1
  obtain rfl : args = #[v0, v1] := by cases args; simp_all
  obtain ⟨rfl, rfl⟩ := trodVars_none hV
  obtain ⟨a0, len0, cap0, rfl⟩ := okWide_slice Try.underlying22 (hval 0 22 v0 rfl rfl)
  have k0 := h0
  have lt0 : ∀ x ∈ p0, x.block < W.heap.size := by obtain ⟨m, hm⟩ := k0; exact DataW.trod_lt m _ _ _ hm
  obtain ⟨z0, w0⟩ := open_texts h0
  obtain ⟨a1, rfl, rfl, rfl, w1⟩ := open_string Try.underlying9 (hval 1 9 v1 rfl rfl) h1
  clear hA0 hval0
  refine (walk a0 len0 cap0 z0 a1 W w0 w1).mono fun e W' ⟨he, bel⟩ => ?_
  subst he
  exact ⟨_, rfl, _, _, _, [], _, [], hW', trodAll_mk1 (shut_bool Try.underlying4 _), (trodAll_cons_mk (Below.trod laidOut (by kernel_rfl) (of_decide_eq_true (by kernel_rfl)) k0 bel lt0) (trodAll_cons_mk (shut_string Try.underlying9 w1) trodAll_mk0)), rfl, bel.frame _, fun h => by cases h⟩

theorem over : Rows.foldLiteralRow.holds Try.pinned (OpenSpec.ofChange Rows.foldLiteralSpec) :=
  OpenClaim.holds_of_wide 9 Try.f9 rfl rfl rfl rfl rfl rfl rfl ⟨rfl, rfl, rfl, rfl, rfl⟩ rfl rfl rfl rfl rfl (by kernel_rfl) Try.func9 (by kernel_rfl)
    (of_decide_eq_true (by kernel_rfl)) (by unfold Func.isWrapper; first | (rw [if_pos (by decide +kernel)]; kernel_rfl) | (rw [if_neg (by decide +kernel)]; exact ⟨rfl, rfl⟩))
    (fun os started H enc _ => lifted os started H enc)

theorem proved : Rows.FoldLiteralSaid := over
#print axioms proved
end Go.Proofs.Ytodnfdkcmhiljaa.foldLiteral
