/- The reference's Check comes to the same plain function. -/
import Derived.Test.YtpcbpblckecfiaaRef
namespace Go.Proofs.Ytpcbpblckecfiaa
open Go.RowKit
set_option linter.unusedVariables false

theorem brk_drop (zs : List Int) (n k : Nat) (hl : zs.length = n) : brk (zs.drop k) = (decide (k + 1 < n) && zs.getD (k + 1) 0 == 10) := by
  unfold brk
  rw [List.length_drop, hl]
  have e : (zs.drop k).getD 1 0 = zs.getD (k + 1) 0 := by simp [List.getD]
  rw [e]
  congr 1
  exact decide_eq_decide.2 (by omega)

set_option maxHeartbeats 1000000 in
theorem refCheck_limit (A : Option Addr) (n cap : Nat) (w : World) (hnc : n ≤ cap) (hm : cap ≤ 9223372036854775807) (h : 65536 < n) :
    Calls Try.prog 24 #[.slice A n cap] w fun e w' => e = retCheck (65536, 10) ∧ w = w' := by
  have d : (65536 : Int) < (n : Int) := by omega
  go_enter Try.func24, Try.ntmps24
  go_wp2
  go_ret2
  exact ⟨rfl, rfl⟩


set_option maxHeartbeats 4000000 in
theorem refCheck_some (b off : Nat) (n cap : Nat) (zs : List Int) (w : World) (hl : zs.length = n) (hnc : n ≤ cap) (hm : cap ≤ 9223372036854775807) (hb : Byte zs) (hr : RdB w (some ⟨b, off, none⟩) zs) (h : n ≤ 65536) :
    Calls Try.prog 24 #[.slice (some ⟨b, off, none⟩) n cap] w fun e w' => e = retCheck (checkF zs) ∧ w = w' := by
  have d : decide ((65536 : Int) < (n : Int)) = false := decide_eq_false (by omega)
  have HL := Lib.hid hl
  have HB := Lib.hid hb
  have HR := Lib.hid hr
  obtain ⟨m, hmk, hm3, hF⟩ : ∃ m : Nat, m ≤ n ∧ (mrk zs = true ∧ m = 3 ∨ mrk zs = false ∧ m = 0) ∧ checkF zs = chk n (zs.drop m) m := by
    cases hmr : mrk zs
    · refine ⟨0, by omega, .inr ⟨rfl, rfl⟩, ?_⟩
      unfold checkF; rw [if_neg (by omega), if_neg (by simp [hmr])]; simp [hl]
    · refine ⟨3, ?_, .inl ⟨rfl, rfl⟩, ?_⟩
      · unfold mrk at hmr; simp at hmr; omega
      · unfold checkF; rw [if_neg (by omega), if_pos hmr]; simp [hl]
  have HF := Lib.hid hF
  clear hF hl hb hr
  rcases hm3 with ⟨hmr, rfl⟩ | ⟨hmr, rfl⟩
  all_goals
    go_enter Try.func24, Try.ntmps24
    go_wp2_with (go_at_call 33; refine (refMarked_any _ _ _ zs _ HL.out (by omega) (by omega) HR.out).mono ?_; rintro e w' ⟨rfl, rfl⟩)
    clear hmr
    go_loop [2, 3, 4] (fun r1 e a => ∃ k : Nat, k ≤ n ∧ a = .int .i64 k ∧ e = .int .i64 0 ∧ r1 = .int .i64 0 ∧ Hid (checkF zs = chk n (zs.drop k) k)) (fun _ _ a => n - (intOf a).toNat)
    case atStart => exact ⟨_, hmk, rfl, rfl, rfl, HF⟩
    case round =>
      obtain ⟨k, hk, rfl, rfl, rfl, HA⟩ := hrel
      clear HF
      by_cases hlt : k < n
      · obtain ⟨r, j, ok, hrf, hj1, hj2, hbad, hgood⟩ := chk_round n k zs HL.out hlt
        have hly : (zs.drop k).length = n - k := by rw [List.length_drop, HL.out]
        have cr := fun W hW => refRune_at (some ⟨b, off + k, none⟩) (n - k) (cap - k) (zs.drop k) W r j ok hly (by omega) (by omega) (HB.out.drop k) hW hrf
        have CR := Lib.hid cr
        have HBAD := Lib.hid hbad
        have HGOOD := Lib.hid hgood
        clear cr hbad hgood hrf hly
        have hbrk : brk (zs.drop k) = (decide (k + 1 < n) && zs.getD (k + 1) 0 == 10) := brk_drop zs n k HL.out
        rw [hbrk] at HBAD HGOOD
        clear hbrk
        cases ok
        · have hfin : checkF zs = ((k : Int), 1) := by rw [HA.out]; exact HBAD.out (.inl rfl)
          have HFIN := Lib.hid hfin
          clear hfin HBAD HGOOD
          go_wp2_with (go_at_call 21; refine (CR.out _ (HR.out.drop k)).mono ?_; rintro e w' ⟨rfl, rfl⟩)
          go_ret2
          exact ⟨by rw [HFIN.out]; rfl, rfl⟩
        · cases hp : prt r
          · have hfin : checkF zs = ((k : Int), 1) := by rw [HA.out]; exact HBAD.out (.inr (.inl hp))
            have HFIN := Lib.hid hfin
            clear hfin HBAD HGOOD
            go_wp2_with (first | (go_at_call 21; refine (CR.out _ (HR.out.drop k)).mono ?_; rintro e w' ⟨rfl, rfl⟩) | (go_at_call 22; refine (refPrt_any _ _).mono ?_; rintro e w' ⟨rfl, rfl⟩))
            go_ret2
            exact ⟨by rw [HFIN.out]; rfl, rfl⟩
          · cases h13 : (r == 13)
            · have hfin : checkF zs = chk n (zs.drop (k + j)) ((k + j : Nat) : Int) := by rw [HA.out]; exact HGOOD.out rfl hp (.inl h13)
              have HFIN := Lib.hid hfin
              clear hfin HBAD HGOOD
              go_wp2_with (first | (go_at_call 21; refine (CR.out _ (HR.out.drop k)).mono ?_; rintro e w' ⟨rfl, rfl⟩) | (go_at_call 22; refine (refPrt_any _ _).mono ?_; rintro e w' ⟨rfl, rfl⟩))
              go_round
              case rel => exact ⟨k + j, hj2, by go_num, rfl, rfl, HFIN⟩
              case measure => simp [intOf]; omega
            · by_cases hk1 : k + 1 < n
              · have dk : (k : Int) + 1 < (n : Int) := by omega
                have c1 : w.cell? ⟨b, off + (k + 1), none⟩ = some (.int .u8 (zs.getD (k + 1) 0)) := by
                  obtain ⟨b', off', e, hc⟩ := HR.out (k + 1) _ (getD_at (by rw [HL.out]; exact hk1))
                  injection e with e
                  injection e with e1 e2
                  subst e1 e2
                  exact hc
                rw [decide_eq_true hk1, Bool.true_and] at HBAD HGOOD
                generalize zs.getD (k + 1) 0 = x at *
                cases hx : (x == 10)
                · have hx' : (x != 10) = true := by simp only [bne, hx]; rfl
                  have hfin : checkF zs = ((k : Int), 1) := by rw [HA.out]; exact HBAD.out (.inr (.inr ⟨h13, hx⟩))
                  have HFIN := Lib.hid hfin
                  clear hfin HBAD HGOOD hx
                  go_wp2_with (first | (go_at_call 21; refine (CR.out _ (HR.out.drop k)).mono ?_; rintro e w' ⟨rfl, rfl⟩) | (go_at_call 22; refine (refPrt_any _ _).mono ?_; rintro e w' ⟨rfl, rfl⟩))
                  go_ret2
                  exact ⟨by rw [HFIN.out]; rfl, rfl⟩
                · have hx' : (x != 10) = false := by simp only [bne, hx]; rfl
                  have hfin : checkF zs = chk n (zs.drop (k + j)) ((k + j : Nat) : Int) := by rw [HA.out]; exact HGOOD.out rfl hp (.inr hx)
                  have HFIN := Lib.hid hfin
                  clear hfin HBAD HGOOD hx
                  go_wp2_with (first | (go_at_call 21; refine (CR.out _ (HR.out.drop k)).mono ?_; rintro e w' ⟨rfl, rfl⟩) | (go_at_call 22; refine (refPrt_any _ _).mono ?_; rintro e w' ⟨rfl, rfl⟩))
                  go_round
                  case rel => exact ⟨k + j, hj2, by go_num, rfl, rfl, HFIN⟩
                  case measure => simp [intOf]; omega
              · have dk : (n : Int) ≤ (k : Int) + 1 := by omega
                rw [decide_eq_false hk1, Bool.false_and] at HBAD HGOOD
                have hfin : checkF zs = ((k : Int), 1) := by rw [HA.out]; exact HBAD.out (.inr (.inr ⟨h13, rfl⟩))
                have HFIN := Lib.hid hfin
                clear hfin HBAD HGOOD
                go_wp2_with (first | (go_at_call 21; refine (CR.out _ (HR.out.drop k)).mono ?_; rintro e w' ⟨rfl, rfl⟩) | (go_at_call 22; refine (refPrt_any _ _).mono ?_; rintro e w' ⟨rfl, rfl⟩))
                go_ret2
                exact ⟨by rw [HFIN.out]; rfl, rfl⟩
      · have hfin : checkF zs = (0, 0) := by
          rw [HA.out, List.drop_of_length_le (by rw [HL.out]; omega)]; exact chk_nil _ _
        have HFIN := Lib.hid hfin
        clear hfin
        go_wp2
        go_ret2
        exact ⟨by rw [HFIN.out]; rfl, rfl⟩


set_option maxHeartbeats 1000000 in
theorem refCheck_nil (A : Option Addr) (cap : Nat) (w : World) (hm : cap ≤ 9223372036854775807) :
    Calls Try.prog 24 #[.slice A 0 cap] w fun e w' => e = retCheck (0, 0) ∧ w = w' := by
  have hr : RdB w A [] := fun k z h => by simp at h
  have hmr : mrk [] = false := rfl
  go_enter Try.func24, Try.ntmps24
  go_wp2_with (go_at_call 33; refine (refMarked_any A 0 cap [] w rfl (by omega) hm hr).mono ?_; rintro e w' ⟨rfl, rfl⟩)
  go_loop [2, 3, 4] (fun r1 e a => a = .int .i64 0 ∧ e = .int .i64 0 ∧ r1 = .int .i64 0) (fun _ _ _ => 0)
  case atStart => exact ⟨rfl, rfl, rfl⟩
  case round =>
    obtain ⟨rfl, rfl, rfl⟩ := hrel
    go_wp2
    go_ret2
    exact ⟨rfl, rfl⟩

theorem refCheck_any (A : Option Addr) (n cap : Nat) (zs : List Int) (w : World) (hl : zs.length = n) (hnc : n ≤ cap) (hm : cap ≤ 9223372036854775807) (hb : Byte zs) (hr : RdB w A zs) :
    Calls Try.prog 24 #[.slice A n cap] w fun e w' => e = retCheck (checkF zs) ∧ w = w' := by
  by_cases hlim : 65536 < n
  · have : checkF zs = (65536, 10) := by unfold checkF; rw [if_pos (by omega)]
    rw [this]
    exact refCheck_limit A n cap w hnc hm hlim
  · by_cases h0 : n = 0
    · subst h0
      have : zs = [] := List.eq_nil_of_length_eq_zero hl
      subst this
      exact refCheck_nil A cap w hm
    · obtain ⟨b, off, rfl, _⟩ := hr.addr (by omega)
      exact refCheck_some b off n cap zs w hl hnc hm hb hr (by omega)

/-- Check, its answer named. -/
theorem refCheck_at (A : Option Addr) (n cap : Nat) (zs : List Int) (w : World) (hl : zs.length = n) (hnc : n ≤ cap) (hm : cap ≤ 9223372036854775807) (hb : Byte zs) (hr : RdB w A zs) (x y : Int) (hf : checkF zs = (x, y)) :
    Calls Try.prog 24 #[.slice A n cap] w fun e w' => e = .returned (.tuple #[.int .i64 x, .int .i64 y]) ∧ w = w' := by
  have := refCheck_any A n cap zs w hl hnc hm hb hr
  rw [hf] at this
  exact this


end Go.Proofs.Ytpcbpblckecfiaa
