/-
  Proved: the law 'scholium/scholiumlaw07.FoldValues' returns true for every input, and every argument reads as it did before. No conditions.
-/
import Derived.Test.YtodnfdkcmhiljaaRows
import Derived.Test.YtodnfdkcmhiljaaFdRef
import Derived.Test.YtodnfdkcmhiljaaFdTake
import Derived.Test.YtodnfdkcmhiljaaKeep
import Derived.WalkKit
import Derived.ProofKit
import Derived.OpenShut
import Derived.ShutString
import Derived.ChangeOld
import Derived.Below
namespace Go.Proofs.Ytodnfdkcmhiljaa.foldValues
open Go.ChangeShapes Go.WideShapes Go.ChangeAt Go.RowKit
open Go.ChangeMaps (open_string shut_string)
set_option linter.unusedVariables false

theorem own : ownKnob Try.prog.godebug = none := by kernel_rfl
theorem laidOut : laidOutB Try.prog = true := by kernel_rfl

/-- A slice of integers that came in. -/
def IsRow (k : IntKind) (w : World) (a : Option Addr) (len cap : Nat) (zs : List Int) : Prop :=
  (a = none ∧ len = 0 ∧ cap = 0 ∧ zs = []) ∨
  ∃ x, a = some x ∧ len ≤ cap ∧ cap ≤ maxLen ∧ zs.length = cap ∧ (∀ i, i < zs.length → w.cell? (x.add i) = some (.int k (zs.getD i 0))) ∧ ∀ n ∈ zs, (Lit.int k n).wf = true

theorem copyS_any (A : Option Addr) (n c : Nat) (l : List ByteArray) (w : World) (hl : l.length = n) (hn : n ≤ 1000000) (hr : RdC w A (l.map Value.string)) :
    Calls Try.prog 23 #[.slice A n c] w fun e w' => ∃ A' cap', e = .returned (.slice A' n cap') ∧ OwnT w w' A' n cap' l := by
  obtain ⟨v', W', hrun, ho, hg, hv⟩ := run_append_rows Try.underlying22 text_info rfl (by omega) (by omega) w w.heap.size (.slice none 0 0) 0 [] (own_nil _ _ _ _) (Nat.le_refl _) A n c (l.map Value.string) (by simp [hl]) hr (by intro u hu; simp at hu; obtain ⟨s, _, rfl⟩ := hu; rfl) (by omega)
  rw [Nat.zero_add, List.nil_append] at ho
  obtain ⟨A', cap', rfl, h1, h2, h3⟩ := own_form ho
  have HB : Hid (Below w.heap.size w W') := (Below.refl _ _).grown hg (Nat.le_refl _) (own_base (own_nil w w.heap.size 1 9))
  have HRUN := Lib.hid hrun
  have HO := Lib.hid ho
  clear hrun ho hg hv hr
  go_enter Try.func23, Try.ntmps23
  go_wp2_with (at_builtin; refine wpList_append_known rfl _ (.tmp 3) 22 rfl _ _ _ _ rfl rfl HRUN.out ?_)
  go_ret
  exact ⟨A', cap', rfl, hl, HO.out, HB.out, h1, h2, h3⟩

set_option maxHeartbeats 4000000 in
set_option maxRecDepth 100000 in
theorem walk (a0 : Option Addr) (len0 cap0 : Nat) (z0 : List ByteArray) (a1 : Bool) (a2 : Bool) (a3 : Bool) (w : World) (w0 : IsTxs w a0 len0 cap0 z0) :
    Calls Try.prog 7 #[.slice a0 len0 cap0, .bool a1, .bool a2, .bool a3] w fun e w' => e = .returned (.bool true) ∧ Below w.heap.size w w' := by
  have HT := Lib.hid w0
  have hlc : len0 ≤ cap0 := w0.2.2.2.1
  have hcm : cap0 ≤ 9223372036854775807 := w0.2.2.2.2.1
  clear w0
  go_enter Try.func7, Try.ntmps7
  go_wp2_with fail
  go_loopw [9, 10] (fun v i W => ∃ (j m cap : Nat) (A : Option Addr) (l : List ByteArray), j ≤ 10 ∧ j ≤ len0 ∧ m ≤ j ∧ v = .slice A m cap ∧ i = .int .i64 (j : Int) ∧ Hid (Txs w W A m cap l)) (fun _ i _ => 10 - (intOf i).toNat)
  case atStart => exact ⟨0, 0, 0, none, [], by omega, by omega, by omega, rfl, rfl, Txs.nil w w (Below.refl _ _)⟩
  case round =>
    obtain ⟨j, m, cap, A, l, hj8, hjl, hm, rfl, rfl, HK⟩ := hrel
    by_cases hlt : j < 10 ∧ j < len0
    · obtain ⟨hk1, hk2⟩ := hlt
      obtain ⟨b, off, rfl, hc⟩ := HT.out.at_ (by omega)
      obtain ⟨s, hs, hcell0⟩ := hc j hk2
      have hcell := cell_keep HK.out.bel hcell0
      have d1 : (j : Int) < (len0 : Int) := by omega
      have d2 : (j : Int) < 10 := by omega
      clear hc hcell0
      go_wp2_with fail
      refine (text_any s 12 _ (by omega) hs).mono ?_
      rintro e w' ⟨t, _, ht, rfl, rfl⟩
      obtain ⟨A2, cap2, W2, hrun, hat⟩ := HK.out.more t (by omega) (by omega) wr.heap.size rfl
      have HRUN := Lib.hid hrun
      have HAT := Lib.hid hat
      clear hrun hat
      go_wp2_with (at_builtin; refine wpList_append_known rfl _ (.tmp 28) 22 rfl _ _ _ _ rfl rfl HRUN.out ?_)
      go_roundw
      case rel => exact ⟨j + 1, m + 1, cap2, A2, l ++ [t], by omega, by omega, by omega, rfl, by go_num, HAT⟩
      case measure => simp [intOf]; omega
    · have hex : decide (j < len0) = false ∨ (decide (j < len0) = true ∧ decide ((j : Int) < 10) = false) := by
        by_cases h : j < len0
        · exact .inr ⟨decide_eq_true h, decide_eq_false (fun h' => hlt ⟨by omega, h⟩)⟩
        · exact .inl (decide_eq_false h)
      rcases hex with hex | ⟨hex, hex2⟩
      · have hge : ¬ j < len0 := by simpa using hex
        go_wp2_with fail
        obtain ⟨W0, hW0⟩ : ∃ x, wr.alloc (.cells #[.bool a1, .bool a2, .bool a3, .int .i64 0] 27) = x := ⟨_, rfl⟩
        have hg : W0.heap[wr.heap.size]? = some (.cells #[.bool a1, .bool a2, .bool a3, .int .i64 0] 27) := by rw [← hW0]; exact heap_alloc_new _ _
        have hB0 : Below wr.heap.size wr W0 := by rw [← hW0]; exact (Below.refl _ _).alloc (Nat.le_refl _) _
        have HT0 : Hid (Txs w W0 A m cap l) := HK.out.below hB0
        rw [hW0]
        clear hW0 HK
        have c0 : W0.cell? ⟨wr.heap.size, 0, none⟩ = some (.bool a1) := by simp [World.cell?, hg]
        have c1 : W0.cell? ⟨wr.heap.size, 1, none⟩ = some (.bool a2) := by simp [World.cell?, hg]
        have c2 : W0.cell? ⟨wr.heap.size, 2, none⟩ = some (.bool a3) := by simp [World.cell?, hg]
        have c3 : W0.cell? ⟨wr.heap.size, 3, none⟩ = some (.int .i64 0) := by simp [World.cell?, hg]
        have KEEP : Hid (∀ w', Below W0.heap.size W0 w' → w'.cell? ⟨wr.heap.size, 0, none⟩ = some (.bool a1) ∧ w'.cell? ⟨wr.heap.size, 1, none⟩ = some (.bool a2) ∧ w'.cell? ⟨wr.heap.size, 2, none⟩ = some (.bool a3) ∧ w'.cell? ⟨wr.heap.size, 3, none⟩ = some (.int .i64 0) ∧ Below W0.heap.size W0 w') :=
          fun w' hw => ⟨cell_keep hw c0, cell_keep hw c1, cell_keep hw c2, cell_keep hw c3, hw⟩
        clear hg hB0
        go_region_held3 (fun w' => w'.cell? ⟨wr.heap.size, 0, none⟩ = some (.bool a1) ∧ w'.cell? ⟨wr.heap.size, 1, none⟩ = some (.bool a2) ∧ w'.cell? ⟨wr.heap.size, 2, none⟩ = some (.bool a3) ∧ w'.cell? ⟨wr.heap.size, 3, none⟩ = some (.int .i64 0) ∧ Below W0.heap.size W0 w')
          (first
            | exact KEEP.out _ (Below.refl _ _)
            | exact KEEP.out _ (Below.refl _ _).drew
            | exact KEEP.out _ HQ1.out
            | exact KEEP.out _ HQ2.out
            | exact KEEP.out _ HQ3.out
            | exact KEEP.out _ HQ4.out)
          (first
            | (go_at_call 23; refine (copyS_any A m cap l W0.drew HT0.out.1.1 (by omega) ((HT0.out.below (Below.refl _ _).drew).1.rd)).mono ?_; rintro e v1 ⟨A5, cap5, rfl, ho⟩; have HQ1 := Lib.hid (below_step (Below.refl _ _).drew ho.2.2.1); have HO := Lib.hid ho; clear ho)
            | (go_at_call 16; refine (value_any A5 m cap5 ⟨a1, a2, a3, 0⟩ l v1 HO.out.1 HO.out.2.2.2.1 HO.out.2.2.2.2.2 (by omega) HT0.out.2 HO.out.rd).mono ?_; rintro e v2 ⟨s1, hs1, rfl, hb⟩; have HQ2 := Lib.hid (below_step HQ1.out hb); have HS1 := Lib.hid hs1; clear hb hs1)
            | (go_at_call 24; refine (refValue_any A m cap ⟨a1, a2, a3, 0⟩ l v2 HT0.out.1.1 HT0.out.1.2.2.2.1 (by omega) HT0.out.2 ((HT0.out.below HQ2.out).1.rd)).mono ?_; rintro e v3 ⟨s2, hs2, rfl, hb⟩; obtain rfl : s2 = s1 := byt_inj (hs2.trans HS1.out.symm); have HQ3 := Lib.hid (below_step HQ2.out hb); clear hb hs2)
            | (go_at_call 15; refine (wakes_any v3).mono ?_; rintro e v4 ⟨rfl, hb⟩; have HQ4 := Lib.hid (below_step HQ3.out hb); clear hb))
        go_wp2
        go_ret
        exact ⟨rfl, below_step HT0.out.bel HQ4.out⟩
      · have hge : j < len0 := by simpa using hex
        have hge8 : ¬ (j : Int) < 10 := by simpa using hex2
        go_wp2_with fail
        obtain ⟨W0, hW0⟩ : ∃ x, wr.alloc (.cells #[.bool a1, .bool a2, .bool a3, .int .i64 0] 27) = x := ⟨_, rfl⟩
        have hg : W0.heap[wr.heap.size]? = some (.cells #[.bool a1, .bool a2, .bool a3, .int .i64 0] 27) := by rw [← hW0]; exact heap_alloc_new _ _
        have hB0 : Below wr.heap.size wr W0 := by rw [← hW0]; exact (Below.refl _ _).alloc (Nat.le_refl _) _
        have HT0 : Hid (Txs w W0 A m cap l) := HK.out.below hB0
        rw [hW0]
        clear hW0 HK
        have c0 : W0.cell? ⟨wr.heap.size, 0, none⟩ = some (.bool a1) := by simp [World.cell?, hg]
        have c1 : W0.cell? ⟨wr.heap.size, 1, none⟩ = some (.bool a2) := by simp [World.cell?, hg]
        have c2 : W0.cell? ⟨wr.heap.size, 2, none⟩ = some (.bool a3) := by simp [World.cell?, hg]
        have c3 : W0.cell? ⟨wr.heap.size, 3, none⟩ = some (.int .i64 0) := by simp [World.cell?, hg]
        have KEEP : Hid (∀ w', Below W0.heap.size W0 w' → w'.cell? ⟨wr.heap.size, 0, none⟩ = some (.bool a1) ∧ w'.cell? ⟨wr.heap.size, 1, none⟩ = some (.bool a2) ∧ w'.cell? ⟨wr.heap.size, 2, none⟩ = some (.bool a3) ∧ w'.cell? ⟨wr.heap.size, 3, none⟩ = some (.int .i64 0) ∧ Below W0.heap.size W0 w') :=
          fun w' hw => ⟨cell_keep hw c0, cell_keep hw c1, cell_keep hw c2, cell_keep hw c3, hw⟩
        clear hg hB0
        go_region_held3 (fun w' => w'.cell? ⟨wr.heap.size, 0, none⟩ = some (.bool a1) ∧ w'.cell? ⟨wr.heap.size, 1, none⟩ = some (.bool a2) ∧ w'.cell? ⟨wr.heap.size, 2, none⟩ = some (.bool a3) ∧ w'.cell? ⟨wr.heap.size, 3, none⟩ = some (.int .i64 0) ∧ Below W0.heap.size W0 w')
          (first
            | exact KEEP.out _ (Below.refl _ _)
            | exact KEEP.out _ (Below.refl _ _).drew
            | exact KEEP.out _ HQ1.out
            | exact KEEP.out _ HQ2.out
            | exact KEEP.out _ HQ3.out
            | exact KEEP.out _ HQ4.out)
          (first
            | (go_at_call 23; refine (copyS_any A m cap l W0.drew HT0.out.1.1 (by omega) ((HT0.out.below (Below.refl _ _).drew).1.rd)).mono ?_; rintro e v1 ⟨A5, cap5, rfl, ho⟩; have HQ1 := Lib.hid (below_step (Below.refl _ _).drew ho.2.2.1); have HO := Lib.hid ho; clear ho)
            | (go_at_call 16; refine (value_any A5 m cap5 ⟨a1, a2, a3, 0⟩ l v1 HO.out.1 HO.out.2.2.2.1 HO.out.2.2.2.2.2 (by omega) HT0.out.2 HO.out.rd).mono ?_; rintro e v2 ⟨s1, hs1, rfl, hb⟩; have HQ2 := Lib.hid (below_step HQ1.out hb); have HS1 := Lib.hid hs1; clear hb hs1)
            | (go_at_call 24; refine (refValue_any A m cap ⟨a1, a2, a3, 0⟩ l v2 HT0.out.1.1 HT0.out.1.2.2.2.1 (by omega) HT0.out.2 ((HT0.out.below HQ2.out).1.rd)).mono ?_; rintro e v3 ⟨s2, hs2, rfl, hb⟩; obtain rfl : s2 = s1 := byt_inj (hs2.trans HS1.out.symm); have HQ3 := Lib.hid (below_step HQ2.out hb); clear hb hs2)
            | (go_at_call 15; refine (wakes_any v3).mono ?_; rintro e v4 ⟨rfl, hb⟩; have HQ4 := Lib.hid (below_step HQ3.out hb); clear hb))
        go_wp2
        go_ret
        exact ⟨rfl, below_step HT0.out.bel HQ4.out⟩


set_option maxRecDepth 100000 in
theorem lifted (os : Os) (started : os.Started) (H : Type) (enc : TypeId × Value → H) :
    ReturnsInHanded {} Try.checked os 7 .any (Rows.foldValuesSpec.pre6 enc Try.prog Try.f7 Rows.foldValuesRow.domain false) (Rows.foldValuesSpec.post enc Try.prog Try.f7 false true false false) := by
  refine returnsInHanded_of_change (C := Try.checked) own started (by kernel_rfl) Try.func7
    (ChangeSpec.witness6 (enc := enc) (C := Try.checked) false ⟨#[], #[.slice none 0 0, .bool false, .bool false, .bool false], []⟩ 8 (by kernel_rfl) (by kernel_rfl) (by kernel_rfl) (by kernel_rfl)) ?_
  intro W base args ds gs before hval0 hW hcnd _
  have hval : ∀ (j : Nat) t v, Try.f7.params[j]? = some t → args[j]? = some v → Value.okWide Try.prog W .any base t v := hval0
  have hW' := hW
  obtain ⟨p, q, hA0, hV, rfl, hfz, hnd⟩ := hW
  have hA : DataW.TrodAll enc Try.prog W 0 (fun _ => true) true Try.f7.params.toList args.toList ds p := hA0
  rw [Try.params7] at hA hval
  obtain ⟨v0, vs0, d0, ds0, p0, q0, hargs, rfl, rfl, h0, r0⟩ := trodAll_cons hA
  obtain ⟨v1, vs1, d1, ds1, p1, q1, rfl, rfl, rfl, h1, r1⟩ := trodAll_cons r0
  obtain ⟨v2, vs2, d2, ds2, p2, q2, rfl, rfl, rfl, h2, r2⟩ := trodAll_cons r1
  obtain ⟨v3, vs3, d3, ds3, p3, q3, rfl, rfl, rfl, h3, r3⟩ := trodAll_cons r2
  obtain ⟨rfl, rfl, rfl⟩ := trodAll_nil r3
  obtain rfl : args = #[v0, v1, v2, v3] := by cases args; simp_all
  obtain ⟨rfl, rfl⟩ := trodVars_none hV
  obtain ⟨a0, len0, cap0, rfl⟩ := okWide_slice Try.underlying22 (hval 0 22 v0 rfl rfl)
  have k0 := h0
  have lt0 : ∀ x ∈ p0, x.block < W.heap.size := by obtain ⟨m, hm⟩ := k0; exact DataW.trod_lt m _ _ _ hm
  obtain ⟨z0, w0⟩ := open_texts h0
  obtain ⟨a1, rfl, rfl, rfl⟩ := open_bool Try.underlying4 (hval 1 4 v1 rfl rfl) h1
  obtain ⟨a2, rfl, rfl, rfl⟩ := open_bool Try.underlying4 (hval 2 4 v2 rfl rfl) h2
  obtain ⟨a3, rfl, rfl, rfl⟩ := open_bool Try.underlying4 (hval 3 4 v3 rfl rfl) h3
  clear hA0 hval0
  refine (walk a0 len0 cap0 z0 a1 a2 a3 W w0).mono fun e W' ⟨he, bel⟩ => ?_
  subst he
  exact ⟨_, rfl, _, _, _, [], _, [], hW', trodAll_mk1 (shut_bool Try.underlying4 _), (trodAll_cons_mk (Below.trod laidOut (by kernel_rfl) (of_decide_eq_true (by kernel_rfl)) k0 bel lt0) (trodAll_cons_mk (shut_bool Try.underlying4 _) (trodAll_cons_mk (shut_bool Try.underlying4 _) (trodAll_cons_mk (shut_bool Try.underlying4 _) trodAll_mk0)))), rfl, bel.frame _, fun h => by cases h⟩

theorem over : Rows.foldValuesRow.holds Try.pinned (OpenSpec.ofChange Rows.foldValuesSpec) :=
  OpenClaim.holds_of_wide 7 Try.f7 rfl rfl rfl rfl rfl rfl rfl ⟨rfl, rfl, rfl, rfl, rfl⟩ rfl rfl rfl rfl rfl (by kernel_rfl) Try.func7 (by kernel_rfl)
    (of_decide_eq_true (by kernel_rfl)) (by unfold Func.isWrapper; first | (rw [if_pos (by decide +kernel)]; kernel_rfl) | (rw [if_neg (by decide +kernel)]; exact ⟨rfl, rfl⟩))
    (fun os started H enc _ => lifted os started H enc)

theorem proved : Rows.FoldValuesSaid := over
#print axioms proved
end Go.Proofs.Ytodnfdkcmhiljaa.foldValues
