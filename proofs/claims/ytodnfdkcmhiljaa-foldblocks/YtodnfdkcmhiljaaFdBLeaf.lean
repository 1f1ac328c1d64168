/- fold.content, fold.documentMark, fold.belongs. -/
import Derived.Test.YtodnfdkcmhiljaaLnRef
import Derived.Test.YtodnfdkcmhiljaaFdBPure
namespace Go.Proofs.Ytodnfdkcmhiljaa
open Go.RowKit
set_option linter.unusedVariables false

/-- A line's bytes. -/
def ContP (zs : List Int) (l : Ln) (c : Nat) (w : World) (e : Ending) (w' : World) : Prop :=
  ∃ A', e = .returned (.slice A' (l.t - l.f) (c - l.f)) ∧ (A' = none → c - l.f = 0) ∧ RdB w A' (cont zs l) ∧ Below w.heap.size w w'
set_option maxHeartbeats 1000000 in
theorem content_any (b off : Nat) (n c : Nat) (zs : List Int) (l : Ln) (w : World) (hl : zs.length = n) (hnc : n ≤ c) (hn : n ≤ 1000000) (hr : RdB w (some ⟨b, off, none⟩) zs) (hft : l.f ≤ l.t) (htn : l.t ≤ n) :
    Calls Try.prog 35 #[.slice (some ⟨b, off, none⟩) n c, lnV l] w (ContP zs l c w) := by
  obtain ⟨A', hrun, hA', hrd⟩ := slice_lh (some ⟨b, off, none⟩) n c l.f l.t zs hl hnc (fun h => by cases h) hft htn
  have HX := Lib.hid (And.intro hA' (hrd w hr))
  clear hA' hrd hr hl
  unfold lnV
  have d0 : decide ((l.f : Int) < 0) = false := decide_eq_false (by omega)
  have d1 : ¬ n < l.f := by omega
  have d1' : decide (n < l.f) = false := decide_eq_false d1
  have d2 : ¬ l.t < l.f := by omega
  have d2' : decide (l.t < l.f) = false := decide_eq_false d2
  have d3 : ¬ n < l.t := by omega
  have d3' : decide (n < l.t) = false := decide_eq_false d3
  go_enter Try.func35, Try.ntmps35
  go_wp2
  go_ret
  exact ⟨A', rfl, HX.out.1, HX.out.2, (Below.refl _ _).alloc (Nat.le_refl _) _⟩
theorem dmkL_ways (t : List Int) : (decide (3 ≤ t.length) && (t.take 3 == [45, 45, 45] || t.take 3 == [46, 46, 46])) = ((decide (3 ≤ t.length) && t.take 3 == [45, 45, 45]) || (decide (3 ≤ t.length) && t.take 3 == [46, 46, 46])) := by
  rw [← Bool.and_or_distrib_left]
set_option maxHeartbeats 2000000 in
set_option maxRecDepth 100000 in
theorem documentMark_any (b off : Nat) (n c : Nat) (zs : List Int) (l : Ln) (w : World) (hl : zs.length = n) (hnc : n ≤ c) (hm : c ≤ 9223372036854775807) (hn : n ≤ 1000000) (hb : Byte zs) (hr : RdB w (some ⟨b, off, none⟩) zs) (hft : l.f ≤ l.t) (htn : l.t ≤ n) (v : Bool) (hv : dmk zs l = v) :
    Calls Try.prog 51 #[.slice (some ⟨b, off, none⟩) n c, lnV l] w fun e w' => e = .returned (.bool v) ∧ Below w.heap.size w w' := by
  have kc := fun (w : World) (C : Array Value) (n c : Nat) => Lib.run_convert_bytes_const (P := Try.prog) w 24 5 C n c Try.underlying24 Try.underlying5
  have b1 : Byte [45, 45, 45] := by intro z hz; simp at hz; omega
  have b2 : Byte [46, 46, 46] := by intro z hz; simp at hz; omega
  have hW0 : Below w.heap.size w (w.alloc (.cells #[.int .i64 (l.f : Int), .int .i64 (l.t : Int), .int .i64 (l.n : Int)] 63)) := (Below.refl _ _).alloc (Nat.le_refl _) _
  have hcn := content_any b off n c zs l _ hl hnc hn (hr.below hW0) hft htn
  have hct : Byte (cont zs l) := (hb.drop _).take _
  have hcl := cont_len zs l (by omega)
  unfold dmk at hv
  unfold ContP at hcn
  generalize cont zs l = t at *
  have HCN := Lib.hid hcn
  obtain ⟨m, hm0⟩ : ∃ m, l.t - l.f = m := ⟨_, rfl⟩
  rw [hm0] at hcl
  have HM := Lib.hid hcl
  have hmn : m ≤ c - l.f := by omega
  have hmn2 : m ≤ 1000000 := by omega
  obtain ⟨v1, hv1⟩ : ∃ v1, (decide (3 ≤ m) && t.take 3 == [45, 45, 45]) = v1 := ⟨_, rfl⟩
  obtain ⟨v2, hv2⟩ : ∃ v2, (decide (3 ≤ m) && t.take 3 == [46, 46, 46]) = v2 := ⟨_, rfl⟩
  have p1 := fun A W B hr hs => hasPrefix_any A B m (c - l.f) 3 3 t [45, 45, 45] W hcl rfl (by omega) hmn (by omega) hr hs hct b1 v1 hv1
  have p2 := fun A W B hr hs => hasPrefix_any A B m (c - l.f) 3 3 t [46, 46, 46] W hcl rfl (by omega) hmn (by omega) hr hs hct b2 v2 hv2
  have P1 := Lib.hid p1
  have P2 := Lib.hid p2
  have hpre : ((v1 || v2) && (t.length == 3 || t.getD 3 0 == 32)) = v := by
    rw [← hv]; unfold dmkL; rw [dmkL_ways, hcl, hv1, hv2]
  have HV := Lib.hid hpre
  have hm3 : v1 = true ∨ v2 = true → 3 ≤ m := by
    rintro (h | h)
    · rw [h] at hv1; simp at hv1; exact hv1.1
    · rw [h] at hv2; simp at hv2; exact hv2.1
  have HM0 := Lib.hid hm0
  have HM3 := Lib.hid hm3
  clear hv hv1 hv2 p1 p2 hr hb b1 b2 hl hcn hct hcl hpre hm3 hm0
  unfold lnV
  go_enter Try.func51, Try.ntmps51
  go_wp2_with fail
  refine HCN.out.mono ?_
  rintro e W1 ⟨A, rfl, hA, hrA, hb1⟩
  have HRA := Lib.hid (hrA.below hb1)
  have HB1 := Lib.hid (below_step hW0 hb1)
  have HA := Lib.hid hA
  rw [HM0.out]
  clear hA hrA hb1 hW0 HCN
  have HS : Hid (3 ≤ m → ∃ A2, (∀ W, (Instr.slice 24 (.slice A m (c - l.f)) (some (.int .i64 3)) none none).run Try.prog W = .ok (.slice A2 (m - 3) (c - l.f - 3)) W) ∧ (A2 = none → c - l.f - 3 = 0) ∧ ∀ W, RdB W A t → RdB W A2 (t.drop 3)) :=
    fun h => slice_l A m (c - l.f) 3 t HM.out hmn HA.out h
  clear HA
  go_wp2_with fail
  refine (P1.out _ _ _ (HRA.out.below ((Below.refl _ _).alloc (Nat.le_refl _) _)) (RdB.new rfl three_at)).mono ?_
  rintro e w' ⟨rfl, rfl⟩
  cases v1 with
  | true =>
    have hm3 : 3 ≤ m := HM3.out (.inl rfl)
    have HS := Lib.hid (HS.out hm3)
    have PRE : Hid ((true || v2) = true) := rfl
    clear kc
    have hsl := HS.out
    by_cases h3 : m = 3
    · have hv : v = true := by rw [← HV.out, PRE.out]; simp [HM.out, h3]
      subst hv
      have h3' : m - 3 = 0 := by omega
      obtain ⟨A2, hrun, hA2, hrd⟩ := hsl
      rw [h3'] at hrun
      clear hrd HV
      go_wp2
      all_goals (go_ret; exact ⟨rfl, HB1.out.alloc HB1.out.size _⟩)
    · obtain ⟨A2, hrun, hA2, hrd⟩ := hsl
      have hrd2 := hrd (W1.alloc (.cells #[.int .u8 45, .int .u8 45, .int .u8 45] 5 (3, 4))) (HRA.out.below ((Below.refl _ _).alloc (Nat.le_refl _) _))
      obtain ⟨b2, off2, rfl, hc2⟩ := hrd2.addr (by rw [List.length_drop, HM.out]; omega)
      have hcc := hc2 0 (by rw [List.length_drop, HM.out]; omega)
      rw [Nat.add_zero] at hcc
      have hgd : (t.drop 3).getD 0 0 = t.getD 3 0 := by simp [List.getD, List.getElem?_drop]
      rw [hgd] at hcc
      have hv : (t.getD 3 0 == 32) = v := by
        rw [← HV.out, PRE.out, HM.out]
        have : (m == 3) = false := beq_eq_false_iff_ne.2 h3
        rw [this]; simp
      generalize t.getD 3 0 = z at *
      have HVV := Lib.hid hv
      have h3' : ((m : Int) - 3 == 0) = false := beq_eq_false_iff_ne.2 (by omega)
      have h3n : ((m - 3 : Nat) : Int) = (m : Int) - 3 := by omega
      have h3p : ¬ m - 3 = 0 := by omega
      have h3q : 0 < m - 3 := by omega
      have h3b : (((m - 3 : Nat) : Int) == 0) = false := beq_eq_false_iff_ne.2 (by omega)
      clear hv hrd hrd2 hc2 hgd HV
      go_wp2
      go_ret
      exact ⟨ret_bool HVV.out, HB1.out.alloc HB1.out.size _⟩
  | false =>
    have kc2 : ∀ (o : Obj) (C : Array Value) (n c : Nat), (convert 24 24 (.slice (some ⟨W1.heap.size + 1, 0, none⟩) n c)).run Try.prog ((W1.alloc o).alloc (.cells C 5)) = .ok (.slice (some ⟨W1.heap.size + 1, 0, none⟩) n c) ((W1.alloc o).alloc (.cells C 5 (C.size, C.size + 1))) := fun o C n c => by
      have := kc (W1.alloc o) C n c
      rwa [show (W1.alloc o).heap.size = W1.heap.size + 1 by simp] at this
    clear kc
    go_wp2_with fail
    refine (P2.out _ _ _ (HRA.out.below (((Below.refl _ _).alloc (Nat.le_refl _) _).alloc (by simp) _)) (RdB.new (by simp) three_at)).mono ?_
    rintro e w' ⟨rfl, rfl⟩
    clear kc2
    cases v2 with
    | true =>
      have hm3 : 3 ≤ m := HM3.out (.inr rfl)
      have HS := Lib.hid (HS.out hm3)
      have PRE : Hid ((false || true) = true) := rfl
      have hsl := HS.out
      by_cases h3 : m = 3
      · have hv : v = true := by rw [← HV.out, PRE.out]; simp [HM.out, h3]
        subst hv
        have h3' : m - 3 = 0 := by omega
        obtain ⟨A2, hrun, hA2, hrd⟩ := hsl
        rw [h3'] at hrun
        clear hrd HV
        go_wp2
        all_goals (go_ret; exact ⟨rfl, (HB1.out.alloc HB1.out.size _).alloc (by have := HB1.out.size; simp; omega) _⟩)
      · obtain ⟨A2, hrun, hA2, hrd⟩ := hsl
        have hrd2 := hrd ((W1.alloc (.cells #[.int .u8 45, .int .u8 45, .int .u8 45] 5 (3, 4))).alloc (.cells #[.int .u8 46, .int .u8 46, .int .u8 46] 5 (3, 4))) (HRA.out.below (((Below.refl _ _).alloc (Nat.le_refl _) _).alloc (by simp) _))
        obtain ⟨b2, off2, rfl, hc2⟩ := hrd2.addr (by rw [List.length_drop, HM.out]; omega)
        have hcc := hc2 0 (by rw [List.length_drop, HM.out]; omega)
        rw [Nat.add_zero] at hcc
        have hgd : (t.drop 3).getD 0 0 = t.getD 3 0 := by simp [List.getD, List.getElem?_drop]
        rw [hgd] at hcc
        have hv : (t.getD 3 0 == 32) = v := by
          rw [← HV.out, PRE.out, HM.out]
          have : (m == 3) = false := beq_eq_false_iff_ne.2 h3
          rw [this]; simp
        generalize t.getD 3 0 = z at *
        have HVV := Lib.hid hv
        have h3' : ((m : Int) - 3 == 0) = false := beq_eq_false_iff_ne.2 (by omega)
        have h3n : ((m - 3 : Nat) : Int) = (m : Int) - 3 := by omega
        have h3p : ¬ m - 3 = 0 := by omega
        have h3q : 0 < m - 3 := by omega
        have h3b : (((m - 3 : Nat) : Int) == 0) = false := beq_eq_false_iff_ne.2 (by omega)
        clear hv hrd hrd2 hc2 hgd HV
        go_wp2
        go_ret
        exact ⟨ret_bool HVV.out, (HB1.out.alloc HB1.out.size _).alloc (by have := HB1.out.size; simp; omega) _⟩
    | false =>
      have hv : v = false := by rw [← HV.out]; rfl
      subst hv
      go_wp2
      go_ret
      exact ⟨rfl, (HB1.out.alloc HB1.out.size _).alloc (by have := HB1.out.size; simp; omega) _⟩
end Go.Proofs.Ytodnfdkcmhiljaa
