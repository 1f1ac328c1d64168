/- At, Indent, Blank, Break, and the example. -/
import Derived.Test.YtodnfdkcmhiljaaLnSplit
import Derived.Deep.RegionHeld3
import Derived.Deep.DeepCutAuto
namespace Go.Proofs.Ytodnfdkcmhiljaa
open Go.RowKit
set_option linter.unusedVariables false

def AtP (w : World) (p : Int × Int) (e : Ending) (w' : World) : Prop := e = .returned (.tuple #[.int .i64 p.1, .int .i64 p.2]) ∧ ∃ n, w' = w.drewN n

def Small (ls : List Ln) : Prop := ∀ k, (lnAt ls k).f ≤ 1000000 ∧ (lnAt ls k).t ≤ 1000000 ∧ (lnAt ls k).n ≤ 1000000

set_option maxHeartbeats 1000000 in
theorem indent_any (b off : Nat) (n c : Nat) (zs : List Int) (l : Ln) (w : World) (hl : zs.length = n) (hnc : n ≤ c) (hn : n ≤ 1000000) (hr : RdB w (some ⟨b, off, none⟩) zs) (hft : l.f ≤ l.t) (htn : l.t ≤ n) (j : Nat) (hj : indF zs l = j) :
    Calls Try.prog 36 #[.slice (some ⟨b, off, none⟩) n c, lnV l] w fun e w' => e = .returned (.int .i64 (j : Int)) ∧ Below w.heap.size w w' := by
  have HR := Lib.hid hr
  have HL := Lib.hid hl
  have HJ := Lib.hid hj
  clear hr hl hj
  unfold lnV
  go_enter Try.func36, Try.ntmps36
  go_wp2
  go_loop [6] (fun i => ∃ k : Nat, l.f + k ≤ l.t ∧ i = .int .i64 ((l.f : Int) + k) ∧ Hid (∀ j, j < k → zs.getD (l.f + j) 0 = 32)) (fun i => l.t - (intOf i).toNat)
  case atStart => exact ⟨0, by omega, by simp, fun j h => by omega⟩
  case round =>
    obtain ⟨k, hk, rfl, HK⟩ := hrel
    by_cases hlt : l.f + k < l.t
    · obtain ⟨b', off', e, hc⟩ := HR.out.addr (by rw [HL.out]; omega)
      injection e with e; injection e with e1 e2; subst e1 e2
      have hc1 := hc (l.f + k) (by rw [HL.out]; omega)
      have hbl : b < w.heap.size := World.block_lt_of_cell? _ _ hc1
      have d1 : (l.f : Int) + (k : Int) < (l.t : Int) := by omega
      have d2 : (l.f : Int) + (k : Int) < (n : Int) := by omega
      clear hc
      by_cases h32 : zs.getD (l.f + k) 0 = 32
      · have hk2 : ∀ j, j < k + 1 → zs.getD (l.f + j) 0 = 32 := by
          intro j hj
          by_cases he : j = k
          · subst he; exact h32
          · exact HK.out j (by omega)
        have HK2 := Lib.hid hk2
        rw [h32] at hc1
        clear hk2 h32
        go_wp2
        go_round
        case rel => exact ⟨k + 1, by omega, by go_num, HK2⟩
        case measure => simp [intOf]; omega
      · have hst := indF_stop zs l k (by omega) (by rw [HL.out]; omega) HK.out (.inr h32)
        have h32' : (zs.getD (l.f + k) 0 == 32) = false := beq_eq_false_iff_ne.2 h32
        rw [HJ.out] at hst
        subst hst
        clear h32
        generalize zs.getD (l.f + j) 0 = z at *
        go_wp2
        go_ret
        exact ⟨ret_int (by omega), (Below.refl _ _).alloc (Nat.le_refl _) _⟩
    · have hst := indF_stop zs l k (by omega) (by rw [HL.out]; omega) HK.out (.inl (by omega))
      rw [HJ.out] at hst
      subst hst
      have d1 : decide ((l.f : Int) + (j : Int) < (l.t : Int)) = false := decide_eq_false (by omega)
      go_wp2
      go_ret
      exact ⟨ret_int (by omega), (Below.refl _ _).alloc (Nat.le_refl _) _⟩

set_option maxHeartbeats 1000000 in
theorem blank_any (b off : Nat) (n c : Nat) (zs : List Int) (l : Ln) (w : World) (hl : zs.length = n) (hnc : n ≤ c) (hn : n ≤ 1000000) (hr : RdB w (some ⟨b, off, none⟩) zs) (hft : l.f ≤ l.t) (htn : l.t ≤ n) (v : Bool) (hv : blkF zs l = v) :
    Calls Try.prog 34 #[.slice (some ⟨b, off, none⟩) n c, lnV l] w fun e w' => e = .returned (.bool v) ∧ Below w.heap.size w w' := by
  obtain ⟨j, hj⟩ : ∃ j, indF zs l = j := ⟨_, rfl⟩
  have hjb := indF_le zs l hft
  rw [hj] at hjb
  have hv' : ((l.f : Int) + (j : Int) == (l.t : Int)) = v := by
    rw [← hv]; unfold blkF; rw [hj]; apply bool_iff; simp; omega
  have HR := Lib.hid hr
  have HL := Lib.hid hl
  have HJ := Lib.hid hj
  have HV := Lib.hid hv'
  clear hr hl hj hv hv'
  unfold lnV
  go_enter Try.func34, Try.ntmps34
  go_wp2
  have hb0 : Below w.heap.size w (w.alloc (.cells #[.int .i64 (l.f : Int), .int .i64 (l.t : Int), .int .i64 (l.n : Int)] 63)) := (Below.refl _ _).alloc (Nat.le_refl _) _
  have hs1 : w.heap.size < (w.alloc (.cells #[.int .i64 (l.f : Int), .int .i64 (l.t : Int), .int .i64 (l.n : Int)] 63)).heap.size := by simp
  have hc0 : (w.alloc (.cells #[.int .i64 (l.f : Int), .int .i64 (l.t : Int), .int .i64 (l.n : Int)] 63)).cell? ⟨w.heap.size, 0, none⟩ = some (.int .i64 (l.f : Int)) := by simp [World.cell?_alloc_new]
  have hc1 : (w.alloc (.cells #[.int .i64 (l.f : Int), .int .i64 (l.t : Int), .int .i64 (l.n : Int)] 63)).cell? ⟨w.heap.size, 1, none⟩ = some (.int .i64 (l.t : Int)) := by simp [World.cell?_alloc_new]
  have hc2 : (w.alloc (.cells #[.int .i64 (l.f : Int), .int .i64 (l.t : Int), .int .i64 (l.n : Int)] 63)).cell? ⟨w.heap.size, 2, none⟩ = some (.int .i64 (l.n : Int)) := by simp [World.cell?_alloc_new]
  generalize w.alloc (.cells #[.int .i64 (l.f : Int), .int .i64 (l.t : Int), .int .i64 (l.n : Int)] 63) = W at *
  have HB0 := Lib.hid hb0
  clear hb0
  go_region_held3 (fun w' => w'.cell? ⟨w.heap.size, 0, none⟩ = some (.int .i64 (l.f : Int)) ∧ w'.cell? ⟨w.heap.size, 1, none⟩ = some (.int .i64 (l.t : Int)) ∧ w'.cell? ⟨w.heap.size, 2, none⟩ = some (.int .i64 (l.n : Int)) ∧ w.heap.size < w'.heap.size ∧ Below w.heap.size w w')
    (first | exact ⟨hc0, hc1, hc2, hs1, HB0.out⟩ | exact ⟨hc0, hc1, hc2, hs1, HB0.out.drew⟩ | exact ⟨k0, k1, k2, k3, HB2.out⟩)
    (first | (go_at_call 36; refine (indent_any b off n c zs l W.drew HL.out hnc hn (HR.out.below HB0.out.drew) hft htn j HJ.out).mono ?_; rintro e w2 ⟨rfl, hb2⟩; have k0 := (hb2.cell (p := ⟨w.heap.size, 0, none⟩) hs1).trans hc0; have k1 := (hb2.cell (p := ⟨w.heap.size, 1, none⟩) hs1).trans hc1; have k2 := (hb2.cell (p := ⟨w.heap.size, 2, none⟩) hs1).trans hc2; have k3 := Nat.lt_of_lt_of_le hs1 hb2.size; have HB2 := Lib.hid (HB0.out.drew.trans (hb2.mono HB0.out.size)); clear hb2))
  go_wp2
  go_ret
  exact ⟨ret_bool (by rw [IntWalk.i64_in _ (by omega)]; exact HV.out), HB2.out⟩

theorem brkF_cases (zs : List Int) : ((lnF zs (bgn zs)).t = (lnF zs (bgn zs)).n → brkF zs = [10]) ∧ ((lnF zs (bgn zs)).t < (lnF zs (bgn zs)).n → brkF zs = (zs.drop (lnF zs (bgn zs)).t).take ((lnF zs (bgn zs)).n - (lnF zs (bgn zs)).t)) := by
  unfold brkF
  exact ⟨fun h => by simp only []; rw [if_pos h], fun h => by simp only []; rw [if_neg (by omega)]⟩

end Go.Proofs.Ytodnfdkcmhiljaa
