/- The contracts of double.digit, utf8.ValidRune, double.numbered. -/
import Derived.Test.YtdjpdcjljpmfnaaDoorDbPure
import Derived.Test.YtdjpdcjljpmfnaaDoorBytes
namespace Go.Proofs.YtdjpdcjljpmfnaaDoor
open Go.RowKit
set_option linter.unusedVariables false
set_option maxRecDepth 100000

set_option maxHeartbeats 1000000 in
theorem ddigit_any (c : Int) (h0 : 0 ≤ c) (h1 : c < 256) (w : World) (o : Option Int) (ho : hexD c = o) :
    Calls Tryd.prog 72 #[.int .u8 c] w fun e w' => e = .returned (.tuple #[.int .u32 (o.getD 0), .bool o.isSome]) ∧ w = w' := by
  have HO := Lib.hid ho
  clear ho
  have HD : Hid (dgt c = (decide (48 ≤ c) && decide (c ≤ 57))) := by show _ = _; rfl
  by_cases hd : 48 ≤ c ∧ c ≤ 57
  · have hv : o = some (c - 48) := by rw [← HO.out, hexD, if_pos hd]
    have hdg : dgt c = true := by unfold dgt; simp [hd]
    subst hv
    have hd1 := hd.1
    have hd2 := hd.2
    clear HO HD hd
    go_enter Tryd.func72, Tryd.ntmps72
    go_wp2_with (go_at_call 82; refine (digit_any _ _).mono ?_; rintro e w' ⟨rfl, rfl⟩)
    go_ret2
    exact ⟨by simp, rfl⟩
  · have hdg : dgt c = false := by
      unfold dgt
      rw [Bool.eq_false_iff]; intro h; simp at h; exact hd h
    by_cases hA : 65 ≤ c ∧ c ≤ 70
    · have hv : o = some (c - 55) := by rw [← HO.out, hexD, if_neg hd, if_pos hA]
      subst hv
      have hd1 := hA.1
      have hd2 := hA.2
      clear HO HD hd hA
      go_enter Tryd.func72, Tryd.ntmps72
      go_wp2_with (go_at_call 82; refine (digit_any _ _).mono ?_; rintro e w' ⟨rfl, rfl⟩)
      go_ret2
      exact ⟨by simp; omega, rfl⟩
    · have eA : (decide (65 ≤ c) && decide (c ≤ 70)) = false := by rw [Bool.eq_false_iff]; intro h; simp at h; exact hA h
      by_cases ha : 97 ≤ c ∧ c ≤ 102
      · have hv : o = some (c - 87) := by rw [← HO.out, hexD, if_neg hd, if_neg hA, if_pos ha]
        subst hv
        have hd1 := ha.1
        have hd2 := ha.2
        clear HO HD hd ha hA eA
        go_enter Tryd.func72, Tryd.ntmps72
        go_wp2_with (go_at_call 82; refine (digit_any _ _).mono ?_; rintro e w' ⟨rfl, rfl⟩)
        go_ret2
        exact ⟨by simp; omega, rfl⟩
      · have hv : o = none := by rw [← HO.out, hexD, if_neg hd, if_neg hA, if_neg ha]
        subst hv
        have hN := Lib.hid (And.intro hA ha)
        clear HO HD hd eA ha hA
        go_enter Tryd.func72, Tryd.ntmps72
        go_wp2_with (go_at_call 82; refine (digit_any _ _).mono ?_; rintro e w' ⟨rfl, rfl⟩)
        all_goals first
          | (go_ret2; exact ⟨rfl, rfl⟩)
          | (exfalso; have := hN.out; omega)

set_option maxHeartbeats 1000000 in
theorem vrune_any (r : Int) (w : World) (v : Bool) (hv : okR r = v) :
    Calls Tryd.prog 73 #[.int .i32 r] w fun e w' => e = .returned (.bool v) ∧ w = w' := by
  have HV := Lib.hid hv
  clear hv
  go_enter Tryd.func73, Tryd.ntmps73
  go_wp2
  all_goals
    go_ret
    refine ⟨ret_bool ?_, rfl⟩
    rw [← HV.out]
    unfold okR surr
    simp_all
    try omega

def retEsc (o : Option (Int × Nat)) : Ending := .returned (.tuple #[.int .i32 (match o with | some x => x.1 | none => 0), .int .i64 ((match o with | some x => (x.2 : Int) | none => 0)), .bool o.isSome])

theorem wraps_u32 (n : Int) (h₀ : 0 ≤ n) (h₁ : n < 2 ^ 32) : IntKind.u32.wrap n = n := by rw [IntKind.wrap_u32]; omega
theorem u32_or16 (x y : Int) (hx₀ : 0 ≤ x) (hx : x % 16 = 0) (hx₁ : x < 4294967296) (h₀ : 0 ≤ y) (h₁ : y < 16) : bits .or .u32 x y = x + y :=
  bits_join .u32 32 (by decide) wraps_u32 4 x y hx₀ hx hx₁ h₀ h₁ (by omega)
theorem u32_and15 (x : Int) (h₀ : 0 ≤ x) (h₁ : x < 4294967296) : bits .and .u32 x 15 = x % 16 := bits_mask .u32 32 (by decide) wraps_u32 4 (by decide) x h₀ h₁

set_option maxHeartbeats 2000000 in
theorem numbered_any (A : Option Addr) (n cap d : Nat) (zs : List Int) (w : World) (hl : zs.length = n) (hnc : n ≤ cap) (hm : cap ≤ 9223372036854775807) (hb : Byte zs) (hr : RdB w A zs) (hd1 : 1 ≤ d) (hd8 : d ≤ 8) (o : Option (Int × Nat)) (ho : numF d zs = o) :
    Calls Tryd.prog 57 #[.slice A n cap, .int .i64 (d : Int)] w fun e w' => e = retEsc o ∧ w = w' := by
  by_cases hs : n ≤ d
  · have hv : o = none := by rw [← ho, numF, if_pos (by omega)]
    subst hv
    have d1 : (n : Int) ≤ (d : Int) := by omega
    clear hr hb ho hl
    go_enter Tryd.func57, Tryd.ntmps57
    go_wp2
    go_ret3
    exact ⟨rfl, rfl⟩
  · have hA : A = none → cap = 0 := fun h => by
      subst h
      have := hr.none_
      subst this
      simp at hl
      omega
    obtain ⟨A', hsl0, _, hrd⟩ := slice_lh A n cap 1 (1 + d) zs hl hnc hA (by omega) (by omega)
    have hrs := hrd w hr
    rw [show 1 + d - 1 = d by omega] at hsl0 hrs
    have hsl : ∀ W, (Instr.slice 37 (.slice A n cap) (some (.int .i64 1)) (some (.int .i64 (1 + (d : Int)))) none).run Tryd.prog W = .ok (.slice A' d (cap - 1)) W := hsl0
    have hlT : ((zs.drop 1).take d).length = d := by rw [List.length_take, List.length_drop]; omega
    obtain ⟨b, off, rfl, hc⟩ := hrs.addr (by omega)
    have d1 : decide ((n : Int) ≤ (d : Int)) = false := decide_eq_false (by omega)
    have d1' : decide (n ≤ d) = false := decide_eq_false (by omega)
    have HO : Hid (numO d (hexV 0 (((zs.drop 1).take d).take d)) = o) := by
      show _ = o
      rw [List.take_take, Nat.min_self, ← ho, numF, if_neg (by omega)]
    have HC : Hid (∀ k, k < d → ∃ z, ((zs.drop 1).take d)[k]? = some z ∧ 0 ≤ z ∧ z < 256 ∧ w.cell? ⟨b, off + k, none⟩ = some (.int .u8 z)) := by
      intro k hk
      have hk2 : k < ((zs.drop 1).take d).length := by omega
      have hbT : Byte ((zs.drop 1).take d) := (hb.drop 1).take d
      exact ⟨_, getD_at hk2, (hbT.at_ hk2).1, (hbT.at_ hk2).2, hc k hk2⟩
    have hdn : d < n := by omega
    clear hr hb ho hl hc hs hsl0 hrd hrs hlT hA
    generalize (zs.drop 1).take d = T at *
    go_enter Tryd.func57, Tryd.ntmps57
    go_wp2
    go_loop [4, 5, 6, 7, 21] (fun r1 r2 r3 s i => ∃ (k : Nat) (q : Int), k ≤ d ∧ i = .int .i64 k ∧ s = .int .u32 q ∧ r1 = .int .i32 0 ∧ r2 = .int .i64 0 ∧ r3 = .bool false ∧ Hid (hexV 0 (T.take k) = some q)) (fun _ _ _ _ i => d - (intOf i).toNat)
    case atStart => exact ⟨0, 0, by omega, rfl, rfl, rfl, rfl, rfl, rfl⟩
    case round =>
      obtain ⟨k, q, hk, rfl, rfl, rfl, rfl, rfl, HQ⟩ := hrel
      by_cases hlt : k < d
      · obtain ⟨z, hz, hz0, hz1, hcz⟩ := HC.out k hlt
        have hst := hexV_step T k z q hz HQ.out
        have hq0 : 0 ≤ q ∧ q < 268435456 := (hexV_lt _ q HQ.out).1 (by rw [List.length_take]; omega)
        have hq1 := hq0.1
        have hq2 := hq0.2
        clear hq0 hz
        cases hd : hexD z with
        | none =>
          have hv : o = none := by
            rw [← HO.out, hexV_stop T (k + 1) d hlt (by rw [hst, hd])]; rfl
          subst hv
          clear hst
          have HD := Lib.hid hd
          clear hd
          go_wp2_with (go_at_call 72; refine (ddigit_any _ (by omega) (by omega) _ _ HD.out).mono ?_; rintro e w' ⟨rfl, rfl⟩)
          go_ret3
          exact ⟨rfl, rfl⟩
        | some x =>
          have hx := hexD_bd hd
          have hx1 := hx.1
          have hx2 := hx.2
          rw [hd] at hst
          have HST : Hid (hexV 0 (T.take (k + 1)) = some (q * 16 + x)) := hst
          have HD := Lib.hid hd
          clear hst hd hx
          go_wp2_with (go_at_call 72; refine (ddigit_any _ (by omega) (by omega) _ _ HD.out).mono ?_; rintro e w' ⟨rfl, rfl⟩)
          go_round
          case rel => exact ⟨k + 1, q * 16 + x, by omega, by go_num, by rw [u32_or16 _ _ (by omega) (by omega) (by omega) (by omega) (by omega)], rfl, rfl, rfl, HST⟩
          case measure => simp [intOf]; omega
      · obtain rfl : k = d := by omega
        have hq0 : 0 ≤ q ∧ q < 4294967296 := (hexV_lt _ q HQ.out).2 (by rw [List.length_take]; omega)
        have HO2 : Hid ((if okR q = true then some (q, 1 + k) else none) = o) := by
          have := HO.out
          rw [HQ.out] at this
          exact this
        have hq1 := hq0.1
        have hq2 := hq0.2
        clear hq0 HO
        by_cases h31 : q < 2147483648
        · cases hok : okR q
          · have hv : o = none := by rw [← HO2.out, hok]; rfl
            subst hv
            have HOK := Lib.hid hok
            clear hok HO2
            go_wp2_with (go_at_call 73; refine (vrune_any _ _ _ HOK.out).mono ?_; rintro e w' ⟨rfl, rfl⟩)
            go_ret3
            exact ⟨rfl, rfl⟩
          · have hv : o = some (q, 1 + k) := by rw [← HO2.out, hok]; rfl
            subst hv
            have HOK := Lib.hid hok
            clear hok HO2
            go_wp2_with (go_at_call 73; refine (vrune_any _ _ _ HOK.out).mono ?_; rintro e w' ⟨rfl, rfl⟩)
            go_ret3
            exact ⟨by simp [retEsc], rfl⟩
        · have hok : okR q = false := by unfold okR; simp; omega
          have hv : o = none := by rw [← HO2.out, hok]; rfl
          subst hv
          have HOK : Hid (okR (wrap32 q) = false) := by
            show _ = _
            unfold okR wrap32; simp; omega
          clear hok HO2
          go_wp2_with fail
          refine (vrune_any (wrap32 q) _ _ HOK.out).mono ?_
          rintro e w' ⟨rfl, rfl⟩
          go_wp2_with fail
          go_ret3
          exact ⟨rfl, rfl⟩
end Go.Proofs.YtdjpdcjljpmfnaaDoor
