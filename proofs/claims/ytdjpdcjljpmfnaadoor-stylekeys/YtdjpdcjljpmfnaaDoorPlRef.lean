/- The contracts of the document's answers: PlainStarts, PlainLength, clean, PlainValid. -/
import Derived.Test.YtdjpdcjljpmfnaaDoorPlLen
import Derived.Test.YtdjpdcjljpmfnaaDoorCleanRef
namespace Go.Proofs.YtdjpdcjljpmfnaaDoor
open Go.RowKit
set_option linter.unusedVariables false
set_option maxRecDepth 100000

theorem in_all (x : Int) : hasB ⟨#[44, 91, 93, 123, 125, 35, 38, 42, 33, 124, 62, 39, 34, 37, 64, 96]⟩ x = (flo x || oth x) := by
  unfold hasB
  have e : byt ⟨#[44, 91, 93, 123, 125, 35, 38, 42, 33, 124, 62, 39, 34, 37, 64, 96]⟩ = [44, 91, 93, 123, 125] ++ [35, 38, 42, 33, 124, 62, 39, 34, 37, 64, 96] := rfl
  rw [e, List.contains_append]
  rfl
set_option maxHeartbeats 2000000 in
theorem refStarts_any (A : Option Addr) (n c : Nat) (zs : List Int) (fl : Bool) (w : World) (hl : zs.length = n) (hnc : n ≤ c) (hm : c ≤ 9223372036854775807) (hb : Byte zs) (hr : RdB w A zs) (v : Bool) (hv : startF zs fl = v) :
    Calls Tryd.prog 62 #[.slice A n c, .bool fl] w fun e w' => e = .returned (.bool v) ∧ w = w' := by
  subst hv
  by_cases h0 : 0 < n
  · obtain ⟨b, off, rfl, hc⟩ := hr.addr (by omega)
    have c1 : w.cell? ⟨b, off, none⟩ = some (.int .u8 (zs.getD 0 0)) := hc 0 (by omega)
    have d : (0 : Int) < (n : Int) := by omega
    have d0 : ((n : Int) == 0) = false := beq_eq_false_iff_ne.2 (by omega)
    have en : noF zs = (blk (zs.getD 0 0) || flo (zs.getD 0 0) || oth (zs.getD 0 0) || docF zs) := by
      unfold noF; rw [decide_eq_false (by omega)]; simp only [Bool.false_or]
    have es1 := fun h => start_no (zs := zs) (fl := fl) h
    have es2 := fun h => start_yes (zs := zs) (fl := fl) h
    have ej : joinF (zs.drop 1) fl = (decide (1 < n) && (!blk (zs.getD 1 0) && !(fl && flo (zs.getD 1 0)))) := by
      unfold joinF; rw [getD_drop, List.length_drop, hl, decide_eq_decide.2 (show 0 < n - 1 ↔ 1 < n by omega)]
    rw [en] at es1 es2
    rw [ej] at es2
    have ia := in_all (zs.getD 0 0)
    have c2 := fun h : 1 < n => hc 1 (by omega)
    have hcv := fun h : 3 ≤ n => run_string_rd w (some ⟨b, off, none⟩) 3 c (zs.take 3) (by rw [List.length_take]; omega) (hr.take 3)
    have hdoc := doc_eq zs
    rw [hl] at hdoc
    have q1 := str_eq (zs.take 3) (hb.take 3) ⟨#[45, 45, 45]⟩
    have q2 := str_eq (zs.take 3) (hb.take 3) ⟨#[46, 46, 46]⟩
    have hs3 : 3 ≤ n → ∀ W, (Instr.slice 37 (.slice (some ⟨b, off, none⟩) n c) none (some (.int .i64 3)) none).run Tryd.prog W = .ok (.slice (some ⟨b, off, none⟩) 3 c) W := fun h => slice_h (some ⟨b, off, none⟩) n c 3 h hnc (fun h => by cases h)
    have b1 : byt ⟨#[45, 45, 45]⟩ = [45, 45, 45] := rfl
    have b2 : byt ⟨#[46, 46, 46]⟩ = [46, 46, 46] := rfl
    rw [b1] at q1
    rw [b2] at q2
    rw [← q1, ← q2] at hdoc
    unfold blk at es1 es2
    clear q1 q2 b1 b2 en ej hc hr hl hb
    generalize zs.getD 0 0 = x at *
    generalize zs.getD 1 0 = y at *
    generalize strOfNums (zs.take 3) = s3 at *
    have t1 : (⟨#[45, 45, 45]⟩ : ByteArray).toList = [45, 45, 45] := by decide +kernel
    have t2 : (⟨#[46, 46, 46]⟩ : ByteArray).toList = [46, 46, 46] := by decide +kernel
    rw [t1, t2] at hdoc
    have e3 : ent x = hasB ⟨#[45, 63, 58]⟩ x := rfl
    have e5 : flo y = hasB ⟨#[44, 91, 93, 123, 125]⟩ y := rfl
    rw [e3, e5] at es2
    rw [Bool.or_assoc (x == 9 || x == 32) (flo x) (oth x), ← ia] at es1 es2
    clear ia t1 t2 e3 e5
    by_cases h3 : 3 ≤ n
    · have hcv' := hcv h3
      have hs3' := hs3 h3
      have c2' := c2 (by omega)
      have d3 : (3 : Int) ≤ (n : Int) := by omega
      have d1 : (1 : Int) < (n : Int) := by omega
      rw [decide_eq_true h3, Bool.true_and] at hdoc
      rw [decide_eq_true (show 1 < n by omega), Bool.true_and] at es2
      rw [hdoc] at es1 es2
      have E1 := Lib.hid es1
      have E2 := Lib.hid es2
      clear es1 es2 hdoc hcv hs3 c2 h3
      go_enter Tryd.func62, Tryd.ntmps62
      go_wp2_with (go_at_call 63; refine (refIn_has _ _ _ (by decide)).mono ?_; rintro e w' ⟨rfl, rfl⟩)
      all_goals go_ret
      all_goals first
        | (refine ⟨ret_bool (E1.out ?_).symm, rfl⟩; simp_all; done)
        | (refine ⟨ret_bool ((E2.out ?_).trans ?_).symm, rfl⟩ <;> (simp_all; done))
        | (refine ⟨ret_bool ((E2.out ?_).trans ?_).symm, rfl⟩ <;> (simp_all [bne]; done))
    · rw [decide_eq_false h3] at hdoc
      rw [hdoc] at es1 es2
      have d3 : decide ((3 : Int) ≤ (n : Int)) = false := decide_eq_false (by omega)
      by_cases h1 : 1 < n
      · have c2' := c2 h1
        have d1 : (1 : Int) < (n : Int) := by omega
        rw [decide_eq_true h1, Bool.true_and] at es2
        have E1 := Lib.hid es1
        have E2 := Lib.hid es2
        clear es1 es2 hdoc hcv hs3 c2 h3
        go_enter Tryd.func62, Tryd.ntmps62
        go_wp2_with (go_at_call 63; refine (refIn_has _ _ _ (by decide)).mono ?_; rintro e w' ⟨rfl, rfl⟩)
        all_goals go_ret
        all_goals first
          | (refine ⟨ret_bool (E1.out ?_).symm, rfl⟩; simp_all; done)
          | (refine ⟨ret_bool ((E2.out ?_).trans ?_).symm, rfl⟩ <;> (simp_all; done))
          | (refine ⟨ret_bool ((E2.out ?_).trans ?_).symm, rfl⟩ <;> (simp_all [bne]; done))
      · have d1 : decide ((1 : Int) < (n : Int)) = false := decide_eq_false (by omega)
        rw [decide_eq_false h1, Bool.false_and] at es2
        have E1 := Lib.hid es1
        have E2 := Lib.hid es2
        clear es1 es2 hdoc hcv hs3 c2 h3
        go_enter Tryd.func62, Tryd.ntmps62
        go_wp2_with (go_at_call 63; refine (refIn_has _ _ _ (by decide)).mono ?_; rintro e w' ⟨rfl, rfl⟩)
        all_goals go_ret
        all_goals first
          | (refine ⟨ret_bool (E1.out ?_).symm, rfl⟩; simp_all; done)
          | (refine ⟨ret_bool ((E2.out ?_).trans ?_).symm, rfl⟩ <;> (simp_all; done))
          | (refine ⟨ret_bool ((E2.out ?_).trans ?_).symm, rfl⟩ <;> (simp_all [bne]; done))
  · have d0 : ((n : Int) == 0) = true := beq_iff_eq.2 (by omega)
    have e : startF zs fl = false := by unfold startF noF; rw [decide_eq_true (show zs.length = 0 by omega)]; simp
    rw [e]
    clear e hr hl hb
    go_enter Tryd.func62, Tryd.ntmps62
    go_wp2
    go_ret
    exact ⟨rfl, rfl⟩

end Go.Proofs.YtdjpdcjljpmfnaaDoor
