/- The document's own answers of chapter 3: splices in order. -/
import Derived.Test.YtegamojidckmcaaSpRef2
namespace Go.Proofs.Ytegamojidckmcaa
open Go.RowKit
set_option linter.unusedVariables false

theorem elemS : Try.prog.elem 29 = 28 := by kernel_rfl
theorem underS : Try.prog.underlying 29 = some (.slice (Try.prog.elem 29)) := by rw [elemS]; exact Try.underlying29
theorem RdS.take {W : World} {A : Option Addr} {l : List Sp} (h : RdS W A l) (k : Nat) : RdS W A (l.take k) := by
  have h1 := RdC.take (cs := spsC l) h (k * 3)
  have e : (spsC l).take (k * 3) = spsC (l.take k) := by
    have h2 : spsC l = spsC (l.take k) ++ spsC (l.drop k) := by rw [← spsC_append, List.take_append_drop]
    by_cases hk : k ≤ l.length
    · rw [h2, List.take_append_of_le_length (by rw [spsC_len, List.length_take]; omega), List.take_of_length_le (by rw [spsC_len, List.length_take]; omega)]
    · rw [List.take_of_length_le (by rw [spsC_len]; omega), List.take_of_length_le (by omega)]
  rw [e] at h1
  exact h1
theorem RdS.drop {W : World} {b off : Nat} {l : List Sp} (h : RdS W (some ⟨b, off, none⟩) l) (k : Nat) (hk : k ≤ l.length) : RdS W (some ⟨b, off + k * 3, none⟩) (l.drop k) := by
  have h1 := RdC.drop (cs := spsC l) h (k * 3)
  have e : (spsC l).drop (k * 3) = spsC (l.drop k) := by
    have h2 : spsC l = spsC (l.take k) ++ spsC (l.drop k) := by rw [← spsC_append, List.take_append_drop]
    rw [h2, List.drop_append_of_le_length (by rw [spsC_len, List.length_take]; omega), List.drop_of_length_le (by rw [spsC_len, List.length_take]; omega), List.nil_append]
  rw [e] at h1
  exact h1
theorem sliceS_l (A : Option Addr) (n c lo : Nat) (l : List Sp) (hl : l.length = n) (hnc : n ≤ c) (hA : A = none → c = 0) (h1 : lo ≤ n) : ∃ A', 
    (∀ W, (Instr.slice 29 (.slice A n c) (some (.int .i64 (lo : Int))) none none).run Try.prog W = .ok (.slice A' (n - lo) (c - lo)) W) ∧
    ∀ W, RdS W A l → RdS W A' (l.drop lo) := by
  obtain ⟨i, hi', hz, hs1, _⟩ := info_parts splice_info
  have hrun : ∀ W, (Instr.slice 29 (.slice A n c) (some (.int .i64 (lo : Int))) none none).run Try.prog W = .ok (sliced A lo n c 3) W := by
    intro W
    rw [run_slice_l W 29 A n c underS .i64 _ (by omega) (by omega), elemS]
    simp [sizeOf, typeInfo, hi', hs1, sliced]
  cases A with
  | none =>
    obtain rfl : c = 0 := hA rfl
    refine ⟨none, fun W => by rw [hrun W]; simp [sliced], fun W h => ?_⟩
    have := h.none_
    subst this; simp; exact RdS.nil _ _
  | some a =>
    by_cases h : c = lo
    · refine ⟨some a, fun W => by rw [hrun W]; simp [sliced, h], fun W hr => ?_⟩
      rw [List.drop_of_length_le (by omega)]; exact RdS.nil _ _
    · refine ⟨some (a.add (lo * 3)), fun W => by rw [hrun W]; simp [sliced, h], fun W hr => ?_⟩
      by_cases h0 : l = []
      · subst h0; simp; exact RdS.nil _ _
      · obtain ⟨b, off, e, _⟩ := RdC.addr hr (by rw [spsC_len]; have := List.length_pos_iff.2 h0; omega)
        injection e with e; subst e
        rw [add_plain]
        exact RdS.drop hr lo (by omega)
theorem sliceS_hm (A : Option Addr) (n c j : Nat) (hA : A = none → c = 0) (h1 : j ≤ c) (W : World) :
    (Instr.slice 29 (.slice A n c) none (some (.int .i64 (j : Int))) (some (.int .i64 (j : Int)))).run Try.prog W = .ok (.slice A j j) W := by
  obtain ⟨i, hi', hz, hs1, _⟩ := info_parts splice_info
  rw [run_slice_hm W 29 A n c underS .i64 .i64 _ _ (by omega) (by omega) (by omega), elemS]
  cases A with
  | none => simp [sizeOf, typeInfo, hi', hs1, sliced]
  | some a =>
    have : a.add 0 = a := by unfold Addr.add; simp
    by_cases hj : j = 0
    · subst hj; simp [sizeOf, typeInfo, hi', hs1, sliced]
    · simp [sizeOf, typeInfo, hi', hs1, sliced, hj, this]
/-- One thing put in between: two appends, the second one always to new memory. -/
theorem mg_step (w W : World) (A : Option Addr) (n c j : Nat) (P : List Sp) (x : Sp) (hl : P.length = n) (hnc : n ≤ c) (hA : A = none → c = 0) (hr : RdS W A P) (hj : j ≤ n) (hb : Below w.heap.size w W) (hn : n ≤ 1000)
    (A2 : Option Addr) (hr2 : ∀ V, RdS V A P → RdS V A2 (P.drop j)) :
    ∃ v1 W2 A3 cap3 W3, (Builtin.append_ #[29, 29] 29 #[.slice (some ⟨W.heap.size, 0, none⟩) 1 1, .slice A2 (n - j) (c - j)]).run Try.prog (W.alloc (.cells #[.int .i64 x.f, .int .i64 x.t, .string x.s] 28)) = .ok v1 W2 ∧
      (Builtin.append_ #[29, 29] 29 #[.slice A j j, v1]).run Try.prog W2 = .ok (.slice A3 (n + 1) cap3) W3 ∧
      n + 1 ≤ cap3 ∧ cap3 ≤ 9223372036854775807 ∧ (A3 = none → cap3 = 0) ∧ RdS W3 A3 (P.take j ++ x :: P.drop j) ∧ Below w.heap.size w W2 ∧ Below w.heap.size w W3 := by
  have hba : Below W.heap.size W (W.alloc (.cells #[.int .i64 x.f, .int .i64 x.t, .string x.s] 28)) := (Below.refl _ _).alloc (Nat.le_refl _) _
  have hown0 := World.ownsRow_lit (base := W.heap.size) (e := 28) (size := 3) W #[.int .i64 x.f, .int .i64 x.t, .string x.s] 1 (Nat.le_refl _) (by unfold maxLen; omega) (by simp)
  obtain ⟨v1, W2, hrun1, ho1, hg1, _⟩ := run_append_rows Try.underlying29 splice_info rfl (by omega) (by omega) _ W.heap.size _ 1 _ hown0 (by simp) A2 (n - j) (c - j) (spsC (P.drop j)) (by rw [spsC_len, List.length_drop, hl]) (hr2 _ (hr.below hba)) (spsC_one · _) (by omega)
  have hcs : ([.int .i64 x.f, .int .i64 x.t, .string x.s] : List Value) ++ spsC (P.drop j) = spsC (x :: P.drop j) := by rw [spsC_cons]; rfl
  have ho1' : W2.ownsRow W.heap.size 28 3 v1 (1 + (n - j)) (spsC (x :: P.drop j)) := by rw [← hcs]; exact ho1
  have hb2 : Below W.heap.size W W2 := hba.grown hg1 (by simp) (own_base hown0)
  obtain ⟨g1, cap1, rfl⟩ : ∃ g1 cap1, v1 = .slice (some ⟨g1, 0, none⟩) (1 + (n - j)) cap1 := by
    rcases ho1'.2 with ⟨_, h⟩ | ⟨g, cap', cur, h, _⟩
    · omega
    · exact ⟨g, cap', h⟩
  have hr1 : RdC W2 (some ⟨g1, 0, none⟩) (spsC (x :: P.drop j)) := RdC.own ho1'
  have hbw2 := below_step hb hb2
  have hfin : ∃ v3 W3, (Builtin.append_ #[29, 29] 29 #[.slice A j j, .slice (some ⟨g1, 0, none⟩) (1 + (n - j)) cap1]).run Try.prog W2 = .ok v3 W3 ∧ W3.ownsRow W2.heap.size 28 3 v3 (j + (1 + (n - j))) (spsC (P.take j) ++ spsC (x :: P.drop j)) ∧ W2.grownBy W3 none := by
    cases A with
    | none =>
      obtain rfl : c = 0 := hA rfl
      obtain rfl : j = 0 := by omega
      obtain ⟨v3, W3, hrun, ho, hg, _⟩ := run_append_rows Try.underlying29 splice_info rfl (by omega) (by omega) W2 W2.heap.size _ 0 [] (own_nil _ _ _ _) (Nat.le_refl _) (some ⟨g1, 0, none⟩) (1 + (n - 0)) cap1 (spsC (x :: P.drop 0)) (by rw [spsC_len]; simp [hl]; omega) hr1 (spsC_one · _) (by omega)
      exact ⟨v3, W3, hrun, ho, hg⟩
    | some a =>
      obtain ⟨i, hi', hz, hs1, hs2⟩ := info_parts splice_info
      have hra : RdS W2 (some a) (P.take j) := (hr.below hb2).take j
      refine run_append_arg_grows (P := Try.prog) (w := W2) 29 29 28 i _ 3 32 Try.underlying29 hi' hz hs1 hs2 rfl (by omega) a j j (spsC (P.take j)) (by rw [spsC_len, List.length_take]; omega) ?_ ⟨g1, 0, none⟩ (1 + (n - j)) cap1 (spsC (x :: P.drop j)) (by rw [spsC_len]; simp [hl]; omega) ?_ (by omega) (by unfold maxLen; omega) (by omega)
      · intro k u hu
        obtain ⟨b, off, e, hc⟩ := hra k u hu
        injection e with e; subst e
        rw [add_plain]; exact hc
      · intro k u hu
        obtain ⟨b, off, e, hc⟩ := hr1 k u hu
        injection e with e; injection e with e1 e2; subst e1 e2
        rw [add_plain]; exact hc
  obtain ⟨v3, W3, hrun3, ho3, hg3⟩ := hfin
  have hN : j + (1 + (n - j)) = n + 1 := by omega
  rw [hN] at ho3
  obtain ⟨A3, cap3, rfl, q1, q2, q3⟩ := own_form ho3
  refine ⟨_, W2, A3, cap3, W3, hrun1, hrun3, q1, q2, q3, ?_, hbw2, hbw2.grown hg3 hbw2.size (fun k h => by cases h)⟩
  have := RdC.own ho3
  rw [← spsC_append] at this
  exact this

theorem insPos_stop {P : List Sp} {x : Sp} {j k : Nat} (h : insPos P x j = insPos P x k) (hs : j = 0 ∨ ∃ q, j = q + 1 ∧ ltS x (spAt P q) = false) : insPos P x k = j := by
  rw [← h]
  rcases hs with rfl | ⟨q, rfl, hq⟩
  · rfl
  · unfold insPos; rw [hq]; rfl
set_option maxHeartbeats 4000000 in
theorem refMerge_any (B : Option Addr) (m d : Nat) (l : List Sp) (w : World) (hm : l.length = m) (hmd : m ≤ d) (hr : RdS w B l) (hm6 : m ≤ 100) :
    Calls Try.prog 22 #[.slice B m d] w (NewS w (mergeUp l m)) := by
  subst hm
  have HR := Lib.hid hr
  clear hr
  go_enter Try.func22, Try.ntmps22
  go_wp2_with fail
  go_loopw [3, 8] (fun v i W => ∃ (k : Nat) (A : Option Addr) (p c : Nat), k ≤ l.length ∧ k = p ∧ i = .int .i64 (k : Int) ∧ v = .slice A p c ∧ p ≤ c ∧ c ≤ 9223372036854775807 ∧ Hid ((A = none → c = 0) ∧ RdS W A (mergeUp l k) ∧ Below w.heap.size w W)) (fun _ i _ => l.length - (intOf i).toNat)
  case atStart => exact ⟨0, none, 0, 0, by omega, rfl, rfl, rfl, by omega, by omega, fun _ => rfl, RdS.nil _ _, Below.refl _ _⟩
  case round =>
    obtain ⟨k, A, p, c, hk, rfl, rfl, rfl, hpc, hcm, HK⟩ := hrel
    obtain ⟨wo, hwo⟩ : ∃ x, x = wr := ⟨_, rfl⟩
    subst hwo
    by_cases hlt : k < l.length
    · obtain ⟨b, off, rfl, hbl, _⟩ := (HR.out.below HK.out.2.2).addr (by omega)
      have hcw : ∀ V, Below w.heap.size w V → V.cell? ⟨b, off + k * 3, none⟩ = some (.int .i64 (spAt l k).f) ∧ V.cell? ⟨b, off + k * 3 + 1, none⟩ = some (.int .i64 (spAt l k).t) ∧ V.cell? ⟨b, off + k * 3 + 2, none⟩ = some (.string (spAt l k).s) := by
        intro V hV
        obtain ⟨b', off', e, _, hc⟩ := (HR.out.below hV).addr (by omega)
        injection e with e; injection e with e1 e2; subst e1 e2
        exact hc k hlt
      have hnext : mergeUp l (k + 1) = refIns (mergeUp l k) (spAt l k) := rfl
      have hpl := mergeUp_len l k
      generalize spAt l k = x at *
      obtain ⟨P, hP⟩ : ∃ P, P = mergeUp l k := ⟨_, rfl⟩
      rw [← hP] at hnext hpl
      have hro := HK.out.2.1
      rw [← hP] at hro
      have HC := Lib.hid (And.intro hcw (And.intro hnext (And.intro hpl (And.intro hro (And.intro HK.out.1 HK.out.2.2)))))
      clear hcw hnext hpl hro HK hP
      have dk : (k : Int) < (l.length : Int) := by omega
      go_wp2_with fail
      go_loopw [5] (fun v W => ∃ j : Nat, j ≤ k ∧ v = .int .i64 (j : Int) ∧ Hid (insPos P x j = insPos P x k ∧ Below wo.heap.size wo W)) (fun v _ => (intOf v).toNat)
      case atStart => exact ⟨k, Nat.le_refl _, rfl, rfl, Below.refl _ _⟩
      case round =>
        obtain ⟨j, hj, rfl, HJ⟩ := hrel
        obtain ⟨wi, hwi⟩ : ∃ x, x = wr := ⟨_, rfl⟩
        subst hwi
        have hbi := below_step HC.out.2.2.2.2.2 HJ.out.2
        obtain ⟨c0, c1, c2⟩ := HC.out.1 _ hbi
        have hroi := HC.out.2.2.2.1.below HJ.out.2
        -- what is done where the place is found
        have hfin : insPos P x k = j → ∀ V, Below wi.heap.size wi V → ∃ A2 v1 W2 A3 cap3 W3, (∀ U, (Instr.slice 29 (.slice A k c) none (some (.int .i64 (j : Int))) (some (.int .i64 (j : Int)))).run Try.prog U = .ok (.slice A j j) U) ∧
            (∀ U, (Instr.slice 29 (.slice A k c) (some (.int .i64 (j : Int))) none none).run Try.prog U = .ok (.slice A2 (k - j) (c - j)) U) ∧
            (Builtin.append_ #[29, 29] 29 #[.slice (some ⟨V.heap.size, 0, none⟩) 1 1, .slice A2 (k - j) (c - j)]).run Try.prog (V.alloc (.cells #[.int .i64 x.f, .int .i64 x.t, .string x.s] 28)) = .ok v1 W2 ∧
            (Builtin.append_ #[29, 29] 29 #[.slice A j j, v1]).run Try.prog W2 = .ok (.slice A3 (k + 1) cap3) W3 ∧
            k + 1 ≤ cap3 ∧ cap3 ≤ 9223372036854775807 ∧ (A3 = none → cap3 = 0) ∧ RdS W3 A3 (mergeUp l (k + 1)) ∧ Below w.heap.size w W2 ∧ Below w.heap.size w W3 := by
          intro hpos V hV
          obtain ⟨A2, hs2, hrd2⟩ := sliceS_l A k c j P HC.out.2.2.1 hpc HC.out.2.2.2.2.1 hj
          have hb' := below_step hbi hV
          obtain ⟨v1, W2, A3, cap3, W3, r1, r2, r3, r4, r5, r6, r7, r8⟩ := mg_step w V A k c j P x HC.out.2.2.1 hpc HC.out.2.2.2.2.1 (hroi.below hV) hj hb' (by omega) A2 hrd2
          refine ⟨A2, v1, W2, A3, cap3, W3, fun U => sliceS_hm A k c j HC.out.2.2.2.2.1 (by omega) U, hs2, r1, r2, r3, r4, r5, ?_, r7, r8⟩
          rw [HC.out.2.1]
          unfold refIns
          rw [HC.out.2.2.1, hpos]
          exact r6
        have HFIN := Lib.hid hfin
        have HROI := Lib.hid hroi
        have HBI := Lib.hid hbi
        clear hfin hbi hroi
        by_cases h0 : 0 < j
        · obtain ⟨q, hq⟩ : ∃ q, j = q + 1 := ⟨j - 1, by omega⟩
          have hpl := HC.out.2.2.1
          obtain ⟨b2, off2, rfl, _, hcell2⟩ := HROI.out.addr (by omega)
          obtain ⟨e0, e1, e2⟩ := hcell2 q (by omega)
          have hstp : insPos P x j = if ltS x (spAt P q) = true then insPos P x q else q + 1 := by rw [hq]; rfl
          obtain ⟨y, hy⟩ : ∃ y, y = spAt P q := ⟨_, rfl⟩
          rw [← hy] at e0 e1 e2 hstp
          have HST := Lib.hid (And.intro hstp (And.intro hq hy))
          have d0 : (0 : Int) < (j : Int) := by omega
          have d3 : (0 : Int) ≤ (q : Int) := by omega
          have d4 : (q : Int) < (k : Int) := by omega
          have d5 : IntKind.i64.wrap ((j : Int) - 1) = (q : Int) := by rw [IntWalk.i64_in _ (by omega)]; omega
          clear hcell2 hstp hq hy hpl
          cases hls : ltS x y with
          | true =>
            have hls' := ltS_iff.1 hls
            have HLS := Lib.hid hls
            clear hls
            by_cases h1 : x.f < y.f
            · clear hls'
              go_wp2_with fail
              go_quiet (fail)
              clear d5
              go_wp2
              go_roundw
              case rel =>
                have hq := HST.out.2.1
                refine ⟨q, by omega, by rw [show (j : Int) - 1 = (q : Int) by omega], ?_, below_draws HJ.out.2 _⟩
                rw [← HJ.out.1, HST.out.1, HLS.out]; rfl
              case measure => simp [intOf]; omega
            · have d6 : decide (x.f < y.f) = false := decide_eq_false h1
              have d7 : (y.f == x.f) = true := beq_iff_eq.2 (by omega)
              have d8 : x.t < y.t := by omega
              clear hls' h1
              go_wp2_with fail
              go_quiet (fail)
              clear d5
              go_wp2
              go_roundw
              case rel =>
                have hq := HST.out.2.1
                refine ⟨q, by omega, by rw [show (j : Int) - 1 = (q : Int) by omega], ?_, below_draws HJ.out.2 _⟩
                rw [← HJ.out.1, HST.out.1, HLS.out]; rfl
              case measure => simp [intOf]; omega
          | false =>
            have hls' := ltS_not.1 hls
            have HLS := Lib.hid hls
            have d6 : decide (x.f < y.f) = false := decide_eq_false (by omega)
            clear hls
            by_cases h1 : x.f = y.f
            · have d7 : (y.f == x.f) = true := beq_iff_eq.2 h1.symm
              have d8 : decide (x.t < y.t) = false := decide_eq_false (by omega)
              clear hls' h1
              go_wp2_with fail
              go_quiet (fail)
              clear d5
              go_wp2_with fail
              obtain ⟨A2, v1, W2, A3, cap3, W3, s1, s2, r1, r2, r3, r4, r5, r6, r7, r8⟩ := HFIN.out (insPos_stop HJ.out.1 (.inr ⟨q, HST.out.2.1, by rw [← HST.out.2.2]; exact HLS.out⟩)) ((wi.drewN nq).drew) (below_draws (Below.refl _ _) _).drew
              have HS := Lib.hid (And.intro (HC.out.1 _ (below_draws HBI.out nq)) (And.intro (HC.out.1 _ (below_draws HBI.out nq).drew) (And.intro (fun o => HC.out.1 _ ((below_draws HBI.out nq).drew.alloc (below_draws HBI.out nq).drew.size o)) (And.intro (HC.out.1 _ r7) (HC.out.1 _ r8)))))
              have HR1 := Lib.hid r1
              have HR2 := Lib.hid r2
              have HX := Lib.hid (And.intro r5 (And.intro r6 r8))
              clear r1 r2 r5 r6 r7 r8 HFIN c0 c1 c2
              go_region_held3 (fun w' => w'.cell? ⟨b, off + k * 3, none⟩ = some (.int .i64 x.f) ∧ w'.cell? ⟨b, off + k * 3 + 1, none⟩ = some (.int .i64 x.t) ∧ w'.cell? ⟨b, off + k * 3 + 2, none⟩ = some (.string x.s))
                (first | exact HS.out.1 | exact HS.out.2.1 | exact HS.out.2.2.1 _ | exact HS.out.2.2.2.1 | exact HS.out.2.2.2.2)
                (first | (refine step_append_known (by rfl) (.tmp 67) (.tmp 70) 29 29 (by rfl) _ _ _ _ (by rfl) (by rfl) HR1.out ?_) | (refine step_append_known (by rfl) (.tmp 62) (.tmp 71) 29 29 (by rfl) _ _ _ _ (by rfl) (by rfl) HR2.out ?_))
              go_wp2
              go_roundw
              case rel => exact ⟨k + 1, A3, k + 1, cap3, by omega, rfl, by go_num, rfl, r3, r4, HX.out⟩
              case measure => simp [intOf]; omega
            · have d7 : (y.f == x.f) = false := beq_eq_false_iff_ne.2 (by omega)
              clear hls' h1
              go_wp2_with fail
              go_quiet (fail)
              clear d5
              go_wp2_with fail
              obtain ⟨A2, v1, W2, A3, cap3, W3, s1, s2, r1, r2, r3, r4, r5, r6, r7, r8⟩ := HFIN.out (insPos_stop HJ.out.1 (.inr ⟨q, HST.out.2.1, by rw [← HST.out.2.2]; exact HLS.out⟩)) ((wi.drewN nq).drew) (below_draws (Below.refl _ _) _).drew
              have HS := Lib.hid (And.intro (HC.out.1 _ (below_draws HBI.out nq)) (And.intro (HC.out.1 _ (below_draws HBI.out nq).drew) (And.intro (fun o => HC.out.1 _ ((below_draws HBI.out nq).drew.alloc (below_draws HBI.out nq).drew.size o)) (And.intro (HC.out.1 _ r7) (HC.out.1 _ r8)))))
              have HR1 := Lib.hid r1
              have HR2 := Lib.hid r2
              have HX := Lib.hid (And.intro r5 (And.intro r6 r8))
              clear r1 r2 r5 r6 r7 r8 HFIN c0 c1 c2
              go_region_held3 (fun w' => w'.cell? ⟨b, off + k * 3, none⟩ = some (.int .i64 x.f) ∧ w'.cell? ⟨b, off + k * 3 + 1, none⟩ = some (.int .i64 x.t) ∧ w'.cell? ⟨b, off + k * 3 + 2, none⟩ = some (.string x.s))
                (first | exact HS.out.1 | exact HS.out.2.1 | exact HS.out.2.2.1 _ | exact HS.out.2.2.2.1 | exact HS.out.2.2.2.2)
                (first | (refine step_append_known (by rfl) (.tmp 67) (.tmp 70) 29 29 (by rfl) _ _ _ _ (by rfl) (by rfl) HR1.out ?_) | (refine step_append_known (by rfl) (.tmp 62) (.tmp 71) 29 29 (by rfl) _ _ _ _ (by rfl) (by rfl) HR2.out ?_))
              go_wp2
              go_roundw
              case rel => exact ⟨k + 1, A3, k + 1, cap3, by omega, rfl, by go_num, rfl, r3, r4, HX.out⟩
              case measure => simp [intOf]; omega
        · have d0 : decide ((0 : Int) < (j : Int)) = false := decide_eq_false (by omega)
          have d0' : decide (0 < j) = false := decide_eq_false (by omega)
          have hj0 : j = 0 := by omega
          have HJ0 := Lib.hid hj0
          clear hj0 h0
          go_wp2_with fail
          go_quiet (fail)
          go_wp2_with fail
          obtain ⟨A2, v1, W2, A3, cap3, W3, s1, s2, r1, r2, r3, r4, r5, r6, r7, r8⟩ := HFIN.out (insPos_stop HJ.out.1 (.inl HJ0.out)) ((wi.drewN nq).drew) (below_draws (Below.refl _ _) _).drew
          have HS := Lib.hid (And.intro (HC.out.1 _ (below_draws HBI.out nq)) (And.intro (HC.out.1 _ (below_draws HBI.out nq).drew) (And.intro (fun o => HC.out.1 _ ((below_draws HBI.out nq).drew.alloc (below_draws HBI.out nq).drew.size o)) (And.intro (HC.out.1 _ r7) (HC.out.1 _ r8)))))
          have HR1 := Lib.hid r1
          have HR2 := Lib.hid r2
          have HX := Lib.hid (And.intro r5 (And.intro r6 r8))
          clear r1 r2 r5 r6 r7 r8 HFIN c0 c1 c2
          go_region_held3 (fun w' => w'.cell? ⟨b, off + k * 3, none⟩ = some (.int .i64 x.f) ∧ w'.cell? ⟨b, off + k * 3 + 1, none⟩ = some (.int .i64 x.t) ∧ w'.cell? ⟨b, off + k * 3 + 2, none⟩ = some (.string x.s))
            (first | exact HS.out.1 | exact HS.out.2.1 | exact HS.out.2.2.1 _ | exact HS.out.2.2.2.1 | exact HS.out.2.2.2.2)
            (first | (refine step_append_known (by rfl) (.tmp 67) (.tmp 70) 29 29 (by rfl) _ _ _ _ (by rfl) (by rfl) HR1.out ?_) | (refine step_append_known (by rfl) (.tmp 62) (.tmp 71) 29 29 (by rfl) _ _ _ _ (by rfl) (by rfl) HR2.out ?_))
          go_wp2
          go_roundw
          case rel => exact ⟨k + 1, A3, k + 1, cap3, by omega, rfl, by go_num, rfl, r3, r4, HX.out⟩
          case measure => simp [intOf]; omega
    · obtain rfl : k = l.length := by omega
      have HX := Lib.hid (And.intro HK.out.1 HK.out.2)
      clear HK
      go_wp2
      go_ret
      exact ⟨A, l.length, c, rfl, mergeUp_len _ _, hpc, hcm, HX.out.1, HX.out.2.1, HX.out.2.2⟩
end Go.Proofs.Ytegamojidckmcaa
