/- The document's own answers (scholiumref01) for Body: stop. -/
import Derived.Test.YtodnfdkcmhiljaaFdBLeaf
namespace Go.Proofs.Ytodnfdkcmhiljaa
open Go.RowKit
set_option linter.unusedVariables false

theorem str_eq_lit (zs : List Int) (hb : Byte zs) (s : ByteArray) (ys : List UInt8) (hs : s.toList = ys) (v : Bool) (hv : (zs == byt s) = v) : ((strOfNums zs).toList == ys) = v := by
  rw [← hs, str_eq zs hb s]; exact hv
set_option maxHeartbeats 2000000 in
set_option maxRecDepth 100000 in
theorem refStop_any (b off : Nat) (n c : Nat) (zs : List Int) (l : Ln) (w : World) (hl : zs.length = n) (hnc : n ≤ c) (hm : c ≤ 9223372036854775807) (hn : n ≤ 1000000) (hb : Byte zs) (hr : RdB w (some ⟨b, off, none⟩) zs) (hft : l.f ≤ l.t) (htn : l.t ≤ n) (v : Bool) (hv : dmk zs l = v) :
    Calls Try.prog 42 #[.slice (some ⟨b, off, none⟩) n c, lnV l] w fun e w' => e = .returned (.bool v) ∧ Below w.heap.size w w' := by
  obtain ⟨A, hrun, hA, hrd⟩ := slice_lh (some ⟨b, off, none⟩) n c l.f l.t zs hl hnc (fun h => by cases h) hft htn
  have hct : Byte (cont zs l) := (hb.drop _).take _
  have hcl := cont_len zs l (by omega)
  have hW0 : Below w.heap.size w (w.alloc (.cells #[.int .i64 (l.f : Int), .int .i64 (l.t : Int), .int .i64 (l.n : Int)] 73)) := (Below.refl _ _).alloc (Nat.le_refl _) _
  have hrA := hrd _ (hr.below hW0)
  unfold dmk at hv
  change RdB _ A (cont zs l) at hrA
  generalize cont zs l = t at *
  obtain ⟨m, hm0⟩ : ∃ m, l.t - l.f = m := ⟨_, rfl⟩
  rw [hm0] at hcl hrun
  have hmc : m ≤ c - l.f := by omega
  have hmn : m ≤ 1000000 := by omega
  by_cases h3 : 3 ≤ m
  · have d3 : (3 : Int) ≤ (m : Int) := by omega
    obtain ⟨b2, off2, rfl, hc2⟩ := hrA.addr (by omega)
    have hs3 := slice_h (some ⟨b2, off2, none⟩) m (c - l.f) 3 h3 hmc (fun h => by cases h)
    have hcv := run_string_rd (w.alloc (.cells #[.int .i64 (l.f : Int), .int .i64 (l.t : Int), .int .i64 (l.n : Int)] 73)) (some ⟨b2, off2, none⟩) 3 (c - l.f) (t.take 3) (by rw [List.length_take, hcl]; omega) (hrA.take 3)
    obtain ⟨v1, hv1⟩ : ∃ v1, (t.take 3 == [45, 45, 45]) = v1 := ⟨_, rfl⟩
    obtain ⟨v2, hv2⟩ : ∃ v2, (t.take 3 == [46, 46, 46]) = v2 := ⟨_, rfl⟩
    have q1 := str_eq_lit (t.take 3) (hct.take 3) ⟨#[45, 45, 45]⟩ [45, 45, 45] (by rw [Lib.toList_data]) v1 hv1
    have q2 := str_eq_lit (t.take 3) (hct.take 3) ⟨#[46, 46, 46]⟩ [46, 46, 46] (by rw [Lib.toList_data]) v2 hv2
    generalize strOfNums (t.take 3) = s at *
    have hpre : ((v1 || v2) && (m == 3 || t.getD 3 0 == 32)) = v := by
      rw [← hv]; unfold dmkL; rw [hcl, decide_eq_true h3, hv1, hv2]; rfl
    have hcc : ¬ m = 3 → (w.alloc (.cells #[.int .i64 (l.f : Int), .int .i64 (l.t : Int), .int .i64 (l.n : Int)] 73)).cell? ⟨b2, off2 + 3, none⟩ = some (.int .u8 (t.getD 3 0)) := fun h => hc2 3 (by omega)
    generalize t.getD 3 0 = z at *
    have HV := Lib.hid hpre
    have HW := Lib.hid hW0
    clear hv hv1 hv2 hpre hrA hrd hA hct hcl hm0 hl hr hb hW0 hc2
    unfold lnV
    by_cases he : m = 3
    · have e3 : ((m : Int) == 3) = true := beq_iff_eq.2 (by omega)
      have HE : Hid ((m == 3) = true) := by show (m == 3) = true; simp [he]
      clear hcc he
      cases v1 with
      | true =>
        go_enter Try.func42, Try.ntmps42
        go_wp2
        all_goals (go_ret; exact ⟨ret_bool (by rw [← HV.out]; simp [HE.out]), HW.out⟩)
      | false =>
        cases v2 with
        | true =>
          go_enter Try.func42, Try.ntmps42
          go_wp2
          all_goals (go_ret; exact ⟨ret_bool (by rw [← HV.out]; simp [HE.out]), HW.out⟩)
        | false =>
          go_enter Try.func42, Try.ntmps42
          go_wp2
          all_goals (go_ret; exact ⟨ret_bool (by rw [← HV.out]; simp [HE.out]), HW.out⟩)
    · have e3 : ((m : Int) == 3) = false := beq_eq_false_iff_ne.2 (by omega)
      have e3' : ¬ m = 3 := he
      have e4 : (3 : Int) < (m : Int) := by omega
      have hcz := hcc he
      have HE : Hid ((m == 3) = false) := by show (m == 3) = false; simp [he]
      have hbl2 := World.block_lt_of_cell? _ _ hcz
      clear hcc
      cases v1 with
      | true =>
        go_enter Try.func42, Try.ntmps42
        go_wp2
        all_goals (go_ret; exact ⟨ret_bool (by rw [← HV.out]; simp [HE.out]), HW.out⟩)
      | false =>
        cases v2 with
        | true =>
          go_enter Try.func42, Try.ntmps42
          go_wp2
          all_goals (go_ret; exact ⟨ret_bool (by rw [← HV.out]; simp [HE.out]), HW.out⟩)
        | false =>
          go_enter Try.func42, Try.ntmps42
          go_wp2
          all_goals (go_ret; exact ⟨ret_bool (by rw [← HV.out]; simp [HE.out]), HW.out⟩)
  · have hv0 : v = false := by rw [← hv]; unfold dmkL; rw [hcl, decide_eq_false h3]; rfl
    subst hv0
    have d3 : ¬ (3 : Int) ≤ (m : Int) := by omega
    have d3' : decide ((3 : Int) ≤ (m : Int)) = false := decide_eq_false d3
    have HW := Lib.hid hW0
    clear hv hrA hrd hA hct hcl hm0 hl hr hb hW0
    unfold lnV
    go_enter Try.func42, Try.ntmps42
    go_wp2
    go_ret
    exact ⟨rfl, HW.out⟩
end Go.Proofs.Ytodnfdkcmhiljaa
