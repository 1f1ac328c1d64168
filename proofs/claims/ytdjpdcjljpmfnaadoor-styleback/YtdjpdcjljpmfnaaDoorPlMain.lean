/- The contracts of ends and Starts. -/
import Derived.Test.YtdjpdcjljpmfnaaDoorPlLeaf
namespace Go.Proofs.YtdjpdcjljpmfnaaDoor
open Go.RowKit
set_option linter.unusedVariables false
set_option maxRecDepth 100000

set_option maxHeartbeats 1000000 in
theorem ends_any (A : Option Addr) (n c k : Nat) (zs : List Int) (fl : Bool) (w : World) (hl : zs.length = n) (hnc : n ≤ c) (hm : c ≤ 9223372036854775807) (hb : Byte zs) (hr : RdB w A zs) (hk : k < n) (v : Bool) (hv : endF zs fl k = v) :
    Calls Tryd.prog 48 #[.slice A n c, .int .i64 (k : Int), .bool fl] w fun e w' => e = .returned (.bool v) ∧ w = w' := by
  subst hv
  obtain ⟨b, off, rfl, hc⟩ := hr.addr (by omega)
  have c1 := hc k (by omega)
  have hbd := hb.at_ (k := k) (by omega)
  have d : (k : Int) < (n : Int) := by omega
  by_cases h58 : zs.getD k 0 = 58
  · have e : endF zs fl k = !joinF (zs.drop (k + 1)) fl := by
      unfold endF endC; rw [h58]; simp [flo]
    rw [h58] at c1
    rw [e]
    obtain ⟨A', hsl, _, hrd⟩ := slice_lI (some ⟨b, off, none⟩) n c (k + 1) ((k : Int) + 1) (by omega) zs hl hnc (fun h => by cases h) (by omega)
    have J := joined_any A' (n - (k + 1)) (c - (k + 1)) (zs.drop (k + 1)) fl w (by rw [List.length_drop, hl]) (by omega) (by omega) (hb.drop _) (hrd w hr) _ rfl
    have HJ := Lib.hid J
    clear J e hc hr hl hb hbd h58 hrd
    go_enter Tryd.func48, Tryd.ntmps48
    go_wp2_with (go_at_call 67; refine HJ.out.mono ?_; rintro e w' ⟨rfl, rfl⟩)
    go_ret
    exact ⟨rfl, rfl⟩
  · by_cases h35 : zs.getD k 0 = 35
    · have e : endF zs fl k = (decide (0 < k) && zs.getD (k - 1) 0 == 32) := by
        unfold endF endC; rw [h35]; simp [flo]
      rw [h35] at c1
      rw [e]
      by_cases h0 : 0 < k
      · have c0 := hc (k - 1) (by omega)
        obtain ⟨j, rfl⟩ : ∃ j, k = j + 1 := ⟨k - 1, by omega⟩
        have ee : j + 1 - 1 = j := by omega
        rw [ee] at c0 ⊢
        rw [show ((j + 1 : Nat) : Int) = (j : Int) + 1 by omega] at d ⊢
        have d0 : (0 : Int) < (j : Int) + 1 := by omega
        rw [decide_eq_true h0]
        generalize zs.getD j 0 = y at *
        clear e hc hr hl hb hbd h58 h35 ee
        go_enter Tryd.func48, Tryd.ntmps48
        go_wp2_with (go_at_call 49; refine (space_any _ _).mono ?_; rintro e w' ⟨rfl, rfl⟩)
        go_ret
        exact ⟨rfl, rfl⟩
      · obtain rfl : k = 0 := by omega
        rw [Nat.add_zero] at c1
        rw [show ((0 : Nat) : Int) = 0 from rfl] at d ⊢
        clear e hc hr hl hb hbd h58 h35
        go_enter Tryd.func48, Tryd.ntmps48
        go_wp2
        go_ret
        exact ⟨rfl, rfl⟩
    · have e : endF zs fl k = (zs.getD k 0 == 9 || (fl && flo (zs.getD k 0))) := by
        unfold endF endC
        rw [beq_eq_false_iff_ne.2 h58, beq_eq_false_iff_ne.2 h35]
        simp
      rw [e]
      generalize zs.getD k 0 = x at *
      have e58 : (x == 58) = false := beq_eq_false_iff_ne.2 h58
      have e35 : (x == 35) = false := beq_eq_false_iff_ne.2 h35
      obtain ⟨hb1, hb2⟩ := hbd
      clear e hc hr hl hb h58 h35
      go_enter Tryd.func48, Tryd.ntmps48
      go_wp2_with (go_at_call 65; refine (among_any _ _ hb1 hb2 _ (flo x) rfl).mono ?_; rintro e w' ⟨rfl, rfl⟩)
      all_goals (go_ret; refine ⟨ret_bool (bool_iff ?_), rfl⟩; simp_all)

theorem start_no {zs : List Int} {fl : Bool} (h : noF zs = true) : startF zs fl = false := by unfold startF; rw [h]; rfl
theorem start_yes {zs : List Int} {fl : Bool} (h : noF zs = false) : startF zs fl = (!ent (zs.getD 0 0) || joinF (zs.drop 1) fl) := by unfold startF; rw [h]; rfl

set_option maxHeartbeats 2000000 in
theorem starts_any (A : Option Addr) (n c : Nat) (zs : List Int) (fl : Bool) (w : World) (hl : zs.length = n) (hnc : n ≤ c) (hm : c ≤ 9223372036854775807) (hb : Byte zs) (hr : RdB w A zs) (v : Bool) (hv : startF zs fl = v) :
    Calls Tryd.prog 47 #[.slice A n c, .bool fl] w fun e w' => e = .returned (.bool v) ∧ Below w.heap.size w w' := by
  subst hv
  by_cases h0 : 0 < n
  · obtain ⟨b, off, rfl, hc⟩ := hr.addr (by omega)
    have c1 : w.cell? ⟨b, off, none⟩ = some (.int .u8 (zs.getD 0 0)) := hc 0 (by omega)
    have hbd := hb.at_ (k := 0) (by omega)
    have d : (0 : Int) < (n : Int) := by omega
    have d0 : ((n : Int) == 0) = false := beq_eq_false_iff_ne.2 (by omega)
    have D := docMark_any (some ⟨b, off, none⟩) n c zs w hl hnc hm hb hr _ rfl
    obtain ⟨A', hsl, _, hrd⟩ := slice_lI (some ⟨b, off, none⟩) n c 1 1 rfl zs hl hnc (fun h => by cases h) (by omega)
    have J := fun W hW => joined_any A' (n - 1) (c - 1) (zs.drop 1) fl W (by rw [List.length_drop, hl]) (by omega) (by omega) (hb.drop _) hW _ rfl
    have en : noF zs = (blk (zs.getD 0 0) || flo (zs.getD 0 0) || oth (zs.getD 0 0) || docF zs) := by
      unfold noF; rw [decide_eq_false (by omega)]; simp only [Bool.false_or]
    have es1 := fun h => start_no (zs := zs) (fl := fl) h
    have es2 := fun h => start_yes (zs := zs) (fl := fl) h
    rw [en] at es1 es2
    have HD := Lib.hid D
    have HJ := Lib.hid J
    have E1 := Lib.hid es1
    have E2 := Lib.hid es2
    have HRD := Lib.hid (fun W hb => hrd W (RdB.below (w := w) hr (w' := W) hb))
    have HC := Lib.hid c1
    clear D J es1 es2 en hc hr hl hb hrd
    generalize hx : zs.getD 0 0 = x at *
    generalize docF zs = dc at *
    generalize joinF (zs.drop 1) fl = jn at *
    obtain ⟨hb1, hb2⟩ := hbd
    clear hx
    go_enter Tryd.func47, Tryd.ntmps47
    go_wp2_with (first | (go_at_call 64; refine (blank_any _ _).mono ?_; rintro e w' ⟨rfl, rfl⟩) | (go_at_call 65; first | (refine (among_any ⟨#[44, 91, 93, 123, 125]⟩ _ hb1 hb2 _ (flo x) rfl).mono ?_; rintro e w' ⟨rfl, rfl⟩) | (refine (among_any ⟨#[35, 38, 42, 33, 124, 62, 39, 34, 37, 64, 96]⟩ _ hb1 hb2 _ (oth x) rfl).mono ?_; rintro e w' ⟨rfl, rfl⟩) | (refine (among_any ⟨#[45, 63, 58]⟩ _ hb1 hb2 _ (ent x) rfl).mono ?_; rintro e w' ⟨rfl, rfl⟩)) | (go_at_call 66; refine HD.out.mono ?_; rintro e w' ⟨rfl, hb⟩; have HB := Lib.hid hb; have c2 := cell_keep hb c1; clear hb) | (go_at_call 67; refine (HJ.out _ (HRD.out _ HB.out)).mono ?_; rintro e w' ⟨rfl, rfl⟩))
    all_goals go_ret
    all_goals first
      | exact ⟨ret_bool (E1.out (by simp [*])).symm, Below.refl _ _⟩
      | exact ⟨ret_bool (E1.out (by simp [*])).symm, HB.out⟩
      | exact ⟨ret_bool (by rw [E2.out (by simp [*])]; simp [*]), HB.out⟩
  · have d0 : ((n : Int) == 0) = true := beq_iff_eq.2 (by omega)
    have e : startF zs fl = false := by unfold startF noF; rw [decide_eq_true (show zs.length = 0 by omega)]; simp
    rw [e]
    clear e hr hl hb
    go_enter Tryd.func47, Tryd.ntmps47
    go_wp2
    go_ret
    exact ⟨rfl, Below.refl _ _⟩

end Go.Proofs.YtdjpdcjljpmfnaaDoor
