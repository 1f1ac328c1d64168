/- Merge: the sort of package slices, in place, over a copy. -/
import Derived.Test.YtegamojidckmcaaSpOrd
import Derived.BigRegion
import Derived.Lib.SliceRun
namespace Go.Proofs.Ytegamojidckmcaa
open Go.RowKit
set_option linter.unusedVariables false

set_option maxHeartbeats 400000 in
theorem isNaN_any (x : Int) (w : World) : Calls Try.prog 35 #[.int .i64 x] w fun e w' => e = .returned (.bool false) ∧ w = w' := by
  go_enter Try.func35, Try.ntmps35
  go_wp2
  go_ret
  exact ⟨by simp, rfl⟩
set_option maxHeartbeats 400000 in
theorem compare_any (x y : Int) (w : World) : Calls Try.prog 33 #[.int .i64 x, .int .i64 y] w fun e w' => e = .returned (.int .i64 (cmpI x y)) ∧ w = w' := by
  go_enter Try.func33, Try.ntmps33
  go_wp2_with fail
  refine (isNaN_any x w).mono ?_
  rintro e w' ⟨rfl, rfl⟩
  go_wp2_with fail
  refine (isNaN_any y w).mono ?_
  rintro e w' ⟨rfl, rfl⟩
  by_cases h1 : x < y
  · have e : cmpI x y = -1 := by unfold cmpI; rw [if_pos h1]
    go_wp2
    go_ret
    exact ⟨ret_int e.symm, rfl⟩
  · have d1 : decide (x < y) = false := decide_eq_false h1
    by_cases h2 : y < x
    · have e : cmpI x y = 1 := by unfold cmpI; rw [if_neg h1, if_pos h2]
      go_wp2
      go_ret
      exact ⟨ret_int e.symm, rfl⟩
    · have e : cmpI x y = 0 := by unfold cmpI; rw [if_neg h1, if_neg h2]
      have d2 : decide (y < x) = false := decide_eq_false h2
      go_wp2
      go_ret
      exact ⟨ret_int e.symm, rfl⟩
set_option maxHeartbeats 400000 in
theorem or_any (x y r : Int) (g : Nat) (w : World) (h0 : w.cell? ⟨g, 0, none⟩ = some (.int .i64 x)) (h1 : w.cell? ⟨g, 1, none⟩ = some (.int .i64 y)) (hr : (if x ≠ 0 then x else y) = r) :
    Calls Try.prog 32 #[.slice (some ⟨g, 0, none⟩) 2 2] w fun e w' => e = .returned (.int .i64 r) ∧ w = w' := by
  have HR := Lib.hid hr
  clear hr
  go_enter Try.func32, Try.ntmps32
  go_wp2_with fail
  go_loop [8] (fun i => i = .int .i64 0 ∨ (i = .int .i64 1 ∧ x = 0) ∨ (i = .int .i64 2 ∧ x = 0 ∧ y = 0)) (fun i => 2 - (intOf i).toNat)
  case atStart => exact .inl rfl
  case round =>
    rcases hrel with rfl | ⟨rfl, rfl⟩ | ⟨rfl, rfl, rfl⟩
    · by_cases hx : x = 0
      · subst hx
        go_wp2
        go_round
        case rel => simp
        case measure => simp [intOf]
      · have hb : (x != 0) = true := by simp [hx]
        have hr := HR.out
        rw [if_pos hx] at hr
        subst hr
        clear HR hx
        go_wp2
        go_ret
        exact ⟨rfl, rfl⟩
    · by_cases hy : y = 0
      · subst hy
        go_wp2
        go_round
        case rel => simp
        case measure => simp [intOf]
      · have hb : (y != 0) = true := by simp [hy]
        have hr := HR.out
        simp only [ne_eq, not_true_eq_false, if_false] at hr
        subst hr
        clear HR hy
        go_wp2
        go_ret
        exact ⟨rfl, rfl⟩
    · have hr := HR.out
      simp only [ne_eq, not_true_eq_false, if_false] at hr
      subst hr
      clear HR
      go_wp2
      go_ret
      exact ⟨rfl, rfl⟩

set_option maxHeartbeats 1000000 in
theorem cmp_any (a b : Sp) (w : World) : Calls Try.prog 31 #[spV a, spV b] w fun e w' => e = .returned (.int .i64 (cmpF a b)) ∧ Below w.heap.size w w' := by
  unfold spV
  obtain ⟨c1, hc1⟩ : ∃ c1, cmpI a.f b.f = c1 := ⟨_, rfl⟩
  obtain ⟨c2, hc2⟩ : ∃ c2, cmpI a.t b.t = c2 := ⟨_, rfl⟩
  have hcf : cmpF a b = if c1 ≠ 0 then c1 else c2 := by unfold cmpF; rw [hc1, hc2]
  have HC := Lib.hid (And.intro hc1 (And.intro hc2 hcf))
  clear hc1 hc2 hcf
  go_enter Try.func31, Try.ntmps31
  go_wp2_with fail
  obtain ⟨W1, hW1⟩ : ∃ W1, W1 = (w.alloc (.cells #[.int .i64 a.f, .int .i64 a.t, .string a.s] 28)).alloc (.cells #[.int .i64 b.f, .int .i64 b.t, .string b.s] 28) := ⟨_, rfl⟩
  have hb1 : Below w.heap.size w W1 := by rw [hW1]; exact ((Below.refl _ _).alloc (Nat.le_refl _) _).alloc (by simp) _
  have k0 : W1.cell? ⟨w.heap.size, 0, none⟩ = some (.int .i64 a.f) := by rw [hW1, World.cell?_alloc_lt _ _ _ (by simp)]; simp [World.cell?_alloc_new]
  have k1 : W1.cell? ⟨w.heap.size, 1, none⟩ = some (.int .i64 a.t) := by rw [hW1, World.cell?_alloc_lt _ _ _ (by simp)]; simp [World.cell?_alloc_new]
  have e1 : W1.cell? ⟨w.heap.size + 1, 0, none⟩ = some (.int .i64 b.f) := by
    rw [hW1]; simp
  have e2 : W1.cell? ⟨w.heap.size + 1, 1, none⟩ = some (.int .i64 b.t) := by
    rw [hW1]; simp
  rw [← hW1]
  have HB1 := Lib.hid hb1
  clear hW1 hb1
  go_still_tail 10, (by kernel_rfl)
  refine wpStill_step (fun K hK => ?_)
  go_simp
  refine ⟨.int .i64 c1, ?_, hK _ ?_⟩
  · refine (compare_any a.f b.f _).mono ?_
    rintro e w2 ⟨rfl, rfl⟩
    exact ⟨by rw [HC.out.1], rfl⟩
  clear hK K
  repeat still_step
  refine wpStill_step (fun K hK => ?_)
  go_simp
  refine ⟨.int .i64 c2, ?_, hK _ ?_⟩
  · refine (compare_any a.t b.t _).mono ?_
    rintro e w2 ⟨rfl, rfl⟩
    exact ⟨by rw [HC.out.2.1], rfl⟩
  clear hK K
  repeat still_step
  refine wpStill_nil ?_
  change wpList _ _ _ _ _ W1.drew
  have HB2 := Lib.hid HB1.out.drew
  generalize W1.drew = W2 at *
  go_wp2_with fail
  refine (or_any c1 c2 (cmpF a b) W2.heap.size _ (by simp [World.cell?_alloc_new]) (by simp [World.cell?_alloc_new]) HC.out.2.2.symm).mono ?_
  rintro e w2 ⟨rfl, rfl⟩
  go_wp2
  go_ret
  exact ⟨rfl, HB2.out.alloc HB2.out.size _⟩

theorem gb_refl (w : World) (row : Option Nat) : w.grownBy w row := ⟨rfl, rfl, rfl, Nat.le_refl _, fun _ _ _ => rfl⟩
theorem gb_trans {a b c : World} {row : Option Nat} (h : a.grownBy b row) (k : b.grownBy c row) : a.grownBy c row :=
  ⟨k.os.trans h.os, k.tape.trans h.tape, k.output.trans h.output, Nat.le_trans h.size k.size, fun i hi hne => (k.block i (Nat.lt_of_lt_of_le hi h.size) hne).trans (h.block i hi hne)⟩
theorem gb_below {a b c : World} {row : Option Nat} (h : a.grownBy b row) (k : Below b.heap.size b c) : a.grownBy c row :=
  gb_trans h ⟨k.os, k.tape, k.output, k.size, fun i hi _ => k.block i hi⟩
/-- A splice stored at its place. -/
theorem spsC_set : ∀ (d : List Sp) (k : Nat) (x : Sp), k < d.length → spsC (d.set k x) = (((spsC d).set (k * 3) (.int .i64 x.f)).set (k * 3 + 1) (.int .i64 x.t)).set (k * 3 + 2) (.string x.s)
  | [], k, x, h => by simp at h
  | y :: r, 0, x, _ => by simp [spsC, spC]
  | y :: r, k + 1, x, h => by
    simp only [List.set_cons_succ]
    rw [spsC_cons, spsC_cons, spsC_set r k x (by simpa using h)]
    have e : ∀ (L : List Value) (j : Nat) (v : Value), (spC y ++ L).set (j + 3) v = spC y ++ L.set j v := by
      intro L j v
      rw [List.set_append_right _ _ (by simp [spC])]
      simp [spC]
    rw [show (k + 1) * 3 = k * 3 + 3 by omega, show k * 3 + 3 + 1 = k * 3 + 1 + 3 by omega, show k * 3 + 3 + 2 = k * 3 + 2 + 3 by omega, e, e, e]
theorem own_store {w : World} {base g n cap : Nat} {e : List Sp} (h : w.ownsRow base 28 3 (.slice (some ⟨g, 0, none⟩) n cap) n (spsC e)) (k : Nat) (x : Sp) (hk : k < e.length) :
    (((w.setCell ⟨g, k * 3, none⟩ (.int .i64 x.f)).setCell ⟨g, k * 3 + 1, none⟩ (.int .i64 x.t)).setCell ⟨g, k * 3 + 2, none⟩ (.string x.s)).ownsRow base 28 3 (.slice (some ⟨g, 0, none⟩) n cap) n (spsC (e.set k x)) ∧
    w.grownBy (((w.setCell ⟨g, k * 3, none⟩ (.int .i64 x.f)).setCell ⟨g, k * 3 + 1, none⟩ (.int .i64 x.t)).setCell ⟨g, k * 3 + 2, none⟩ (.string x.s)) (some g) := by
  have s1 := h.stored (k * 3) (.int .i64 x.f)
  have s2 := s1.1.stored (k * 3 + 1) (.int .i64 x.t)
  have s3 := s2.1.stored (k * 3 + 2) (.string x.s)
  rw [← spsC_set e k x hk] at s3
  exact ⟨s3.1, gb_trans s1.2 (gb_trans s2.2 s3.2)⟩
def cmpV : Value := .func (.func 31) #[] #[]
set_option maxHeartbeats 4000000 in
theorem isort_any (g n cap base : Nat) (d : List Sp) (w : World) (hl : d.length = n) (hn1 : 1 ≤ n) (hn : n ≤ 1000) (hcap : n ≤ cap) (hown : w.ownsRow base 28 3 (.slice (some ⟨g, 0, none⟩) n cap) n (spsC d)) :
    Calls Try.prog 36 #[.slice (some ⟨g, 0, none⟩) n cap, .int .i64 0, .int .i64 (n : Int), cmpV] w fun e w' => e = .returned (.tuple #[]) ∧ w'.ownsRow base 28 3 (.slice (some ⟨g, 0, none⟩) n cap) n (spsC (sortUp d n)) ∧ w.grownBy w' (some g) := by
  have H0 := Lib.hid hown
  have HL := Lib.hid hl
  clear hown hl
  unfold cmpV
  go_enter Try.func36, Try.ntmps36
  go_wp2_with fail
  go_loopw [8] (fun i W => ∃ k : Nat, 1 ≤ k ∧ k ≤ n ∧ i = .int .i64 (k : Int) ∧ Hid (W.ownsRow base 28 3 (.slice (some ⟨g, 0, none⟩) n cap) n (spsC (sortUp d k)) ∧ w.grownBy W (some g))) (fun i _ => n - (intOf i).toNat)
  case atStart => exact ⟨1, by omega, hn1, rfl, H0.out, gb_refl _ _⟩
  case round =>
    obtain ⟨k, hk1, hk, rfl, HK⟩ := hrel
    obtain ⟨wo, hwo⟩ : ∃ x, x = wr := ⟨_, rfl⟩
    subst hwo
    by_cases hlt : k < n
    · obtain ⟨dk, hdk⟩ : ∃ dk, dk = sortUp d k := ⟨_, rfl⟩
      have hdl : dk.length = n := by rw [hdk, sortUp_len, HL.out]
      have hnext : sortUp d (k + 1) = insAt dk k := by rw [hdk]; rfl
      have hownk := HK.out.1
      rw [← hdk] at hownk
      have HD := Lib.hid (And.intro hdl (And.intro hnext (And.intro hownk HK.out.2)))
      clear hdk hdl hnext hownk HK
      have dk0 : (k : Int) < (n : Int) := by omega
      go_wp2_with fail
      go_loopw [9] (fun v W => ∃ (j : Nat) (e : List Sp), j ≤ k ∧ v = .int .i64 (j : Int) ∧ Hid (e.length = n ∧ insAt e j = insAt dk k ∧ W.ownsRow base 28 3 (.slice (some ⟨g, 0, none⟩) n cap) n (spsC e) ∧ w.grownBy W (some g))) (fun v _ => (intOf v).toNat)
      case atStart => exact ⟨k, dk, Nat.le_refl _, rfl, HD.out.1, rfl, HD.out.2.2.1, HD.out.2.2.2⟩
      case round =>
        obtain ⟨j, e, hj, rfl, HE⟩ := hrel
        obtain ⟨wi, hwi⟩ : ∃ x, x = wr := ⟨_, rfl⟩
        subst hwi
        by_cases h0 : 0 < j
        · obtain ⟨q, hq⟩ : ∃ q, j = q + 1 := ⟨j - 1, by omega⟩
          have hq1 : j < e.length := by rw [HE.out.1]; omega
          have hq0 : q < e.length := by omega
          obtain ⟨a1, a2, a3⟩ := spsC_at e j _ (spAt_some hq1)
          obtain ⟨b1, b2, b3⟩ := spsC_at e q _ (spAt_some hq0)
          have cc : ∀ (i : Nat) (v : Value), (spsC e)[i]? = some v → i < n * 3 → wi.cell? ⟨g, i, none⟩ = some v := fun i v h hi => by rw [HE.out.2.2.1.cellAt i hi, h]
          have HS6 := Lib.hid (And.intro a1 (And.intro a2 (And.intro a3 (And.intro b1 (And.intro b2 b3)))))
          have a1 := cc _ _ a1 (by omega)
          have a2 := cc _ _ a2 (by omega)
          have a3 := cc _ _ a3 (by omega)
          have b1 := cc _ _ b1 (by omega)
          have b2 := cc _ _ b2 (by omega)
          have b3 := cc _ _ b3 (by omega)
          have hins : insAt e j = if ltS (spAt e j) (spAt e q) = true then insAt (swp e q) q else e := by rw [hq]; rfl
          have hsw : swp e q = (e.set q (spAt e j)).set j (spAt e q) := by rw [hq]; rfl
          generalize spAt e j = x at *
          generalize spAt e q = y at *
          have HI := Lib.hid (And.intro hins (And.intro hsw hq))
          clear hins hsw hq0 hq1 cc
          have d0 : (0 : Int) < (j : Int) := by omega
          have d1 : (j : Int) < (n : Int) := by omega
          have d3 : (0 : Int) ≤ (q : Int) := by omega
          have d4 : (q : Int) < (n : Int) := by omega
          have d5 : IntKind.i64.wrap ((j : Int) - 1) = (q : Int) := by rw [IntWalk.i64_in _ (by omega)]; omega
          clear hq
          go_wp2_with fail
          go_still_tail 14, (by kernel_rfl)
          change wpList _ _ _ _ _ wi.drew
          clear a1 a2 a3 b1 b2 b3
          have hown2 := own_below HE.out.2.2.1 (Below.refl wi.heap.size wi).drew
          have hgb2 := gb_below HE.out.2.2.2 (Below.refl wi.heap.size wi).drew
          have HE2 := Lib.hid (And.intro hown2 (And.intro hgb2 (And.intro HE.out.1 HE.out.2.1)))
          clear hown2 hgb2 HE d5
          generalize wi.drew = W2 at *
          go_wp2_with fail
          refine (cmp_any x y W2).mono ?_
          rintro e1 W3 ⟨rfl, hb3⟩
          have hown3 := own_below HE2.out.1 hb3
          have hgb3 := gb_below HE2.out.2.1 hb3
          have HE3 := Lib.hid (And.intro hown3 (And.intro hgb3 HE2.out.2.2))
          clear hown3 hgb3 hb3 HE2
          by_cases hlt2 : cmpF x y < 0
          · have hls : ltS x y = true := decide_eq_true hlt2
            have hin := HI.out.1
            rw [if_pos hls] at hin
            have HIN := Lib.hid hin
            clear hin hls
            generalize cmpF x y = cf at *
            have hjq := HI.out.2.2
            have cc : ∀ (i : Nat) (v : Value), (spsC e)[i]? = some v → i < n * 3 → W3.cell? ⟨g, i, none⟩ = some v := fun i v h hi => by rw [HE3.out.1.cellAt i hi, h]
            have a1 := cc _ _ HS6.out.1 (by omega)
            have a2 := cc _ _ HS6.out.2.1 (by omega)
            have a3 := cc _ _ HS6.out.2.2.1 (by omega)
            have b1 := cc _ _ HS6.out.2.2.2.1 (by omega)
            have b2 := cc _ _ HS6.out.2.2.2.2.1 (by omega)
            have b3 := cc _ _ HS6.out.2.2.2.2.2 (by omega)
            have f1 := HE3.out.1.frozenAt (j * 3)
            have f2 := HE3.out.1.frozenAt (j * 3 + 1)
            have f3 := HE3.out.1.frozenAt (j * 3 + 2)
            have f4 := HE3.out.1.frozenAt (q * 3)
            have f5 := HE3.out.1.frozenAt (q * 3 + 1)
            have f6 := HE3.out.1.frozenAt (q * 3 + 2)
            have d5 : IntKind.i64.wrap ((j : Int) - 1) = (q : Int) := by rw [IntWalk.i64_in _ (by omega)]; omega
            have n1 : ¬ (j = q) := by omega
            have n2 : ¬ (q = j) := by omega
            clear cc hjq
            go_wp2_with fail
            go_region
            all_goals go_wp2
            go_roundw
            case rel =>
              have hjq := HI.out.2.2
              clear d5
              have hjn : j < e.length := by rw [HE3.out.2.2.1]; omega
              have hqn : q < e.length := by rw [HE3.out.2.2.1]; omega
              have s1 := own_store HE3.out.1 j y hjn
              have s2 := own_store s1.1 q x (by rw [List.length_set]; exact hqn)
              have hsw : (e.set j y).set q x = swp e q := by rw [HI.out.2.1, List.set_comm _ _ (by omega)]
              rw [hsw] at s2
              refine ⟨q, swp e q, by omega, rfl, by rw [swp_len]; exact HE3.out.2.2.1, by rw [← HIN.out]; exact HE3.out.2.2.2, own_below s2.1 (Below.refl _ _).drew, gb_below (gb_trans HE3.out.2.1 (gb_trans s1.2 s2.2)) (Below.refl _ _).drew⟩
            case measure => have hjq := HI.out.2.2; clear d5; simp [intOf]; omega
          · have hls : ltS x y = false := decide_eq_false hlt2
            have hin := HI.out.1
            rw [hls] at hin
            have hin2 : insAt e j = e := by simpa using hin
            have HIN := Lib.hid hin2
            have dc : decide (cmpF x y < 0) = false := decide_eq_false hlt2
            clear hin hin2 hls hlt2
            generalize cmpF x y = cf at *
            go_wp2
            go_roundw
            case rel =>
              refine ⟨k + 1, by omega, by omega, by go_num, ?_, HE3.out.2.1⟩
              rw [HD.out.2.1, ← HE3.out.2.2.2, HIN.out]
              exact HE3.out.1
            case measure => simp [intOf]; omega
        · obtain rfl : j = 0 := by omega
          have dc : decide ((0 : Int) < ((0 : Nat) : Int)) = false := decide_eq_false (by omega)
          go_wp2_with fail
          go_quiet (fail)
          go_wp2
          go_roundw
          case rel =>
            refine ⟨k + 1, by omega, by omega, by go_num, ?_, gb_below HE.out.2.2.2 (below_draws (Below.refl _ _) _)⟩
            rw [HD.out.2.1, ← HE.out.2.1]
            exact own_below HE.out.2.2.1 (below_draws (Below.refl _ _) _)
          case measure => simp [intOf]; omega
    · obtain rfl : k = n := by omega
      go_wp2
      go_end0
      exact ⟨rfl, HK.out.1, HK.out.2⟩
/-- What a sort leaves: the same row, in order; all else as it was. -/
def SortP (w : World) (base : Nat) (v : Value) (n : Nat) (d : List Sp) (e : Ending) (w' : World) : Prop :=
  e = .returned (.tuple #[]) ∧ w'.ownsRow base 28 3 v n (spsC (mergeUp d d.length)) ∧ w.grownBy w' v.ownBlock
theorem isort_row (A : Option Addr) (n cap base : Nat) (d : List Sp) (w : World) (hl : d.length = n) (hn : n ≤ 1000) (hcap : n ≤ cap) (hown : w.ownsRow base 28 3 (.slice A n cap) n (spsC d)) :
    Calls Try.prog 36 #[.slice A n cap, .int .i64 0, .int .i64 (n : Int), cmpV] w (SortP w base (.slice A n cap) n d) := by
  rcases Nat.eq_zero_or_pos n with rfl | h1
  · have hd : d = [] := List.eq_nil_of_length_eq_zero hl
    subst hd
    have H0 := Lib.hid hown
    clear hown
    unfold cmpV
    go_enter Try.func36, Try.ntmps36
    go_wp2_with fail
    go_loopw [8] (fun i W => i = .int .i64 1 ∧ W = w) (fun i _ => 0)
    case atStart => exact ⟨rfl, rfl⟩
    case round =>
      obtain ⟨rfl, rfl⟩ := hrel
      go_wp2
      go_end0
      exact ⟨rfl, H0.out, gb_refl _ _⟩
  · obtain ⟨g, cap', e⟩ : ∃ g cap', (Value.slice A n cap) = .slice (some ⟨g, 0, none⟩) n cap' := by
      rcases hown.2 with ⟨_, h⟩ | ⟨g, cap', cur, h, _⟩
      · omega
      · exact ⟨g, cap', h⟩
    injection e with e1 _ e2
    subst e1 e2
    refine (isort_any g n cap base d w hl h1 hn hcap hown).mono ?_
    rintro e w' ⟨rfl, h2, h3⟩
    have := sort_all d
    rw [hl] at this
    rw [this] at h2
    exact ⟨rfl, by rw [hl]; exact h2, h3⟩
set_option maxHeartbeats 2000000 in
theorem stable_any (A : Option Addr) (n cap base : Nat) (d : List Sp) (w : World) (hl : d.length = n) (hn : n < 20) (hcap : n ≤ cap) (hown : w.ownsRow base 28 3 (.slice A n cap) n (spsC d)) :
    Calls Try.prog 34 #[.slice A n cap, .int .i64 (n : Int), cmpV] w (SortP w base (.slice A n cap) n d) := by
  have H0 := Lib.hid hown
  have HL := Lib.hid hl
  clear hown hl
  unfold cmpV
  have d1 : (n : Int) < 20 := by omega
  have d2 : decide ((20 : Int) ≤ (n : Int)) = false := decide_eq_false (by omega)
  have d3 : decide ((20 : Int) < (n : Int)) = false := decide_eq_false (by omega)
  go_enter Try.func34, Try.ntmps34
  go_wp2_with fail
  go_loopw [7, 8] (fun a b W => a = .int .i64 0 ∧ b = .int .i64 20 ∧ W = w) (fun _ _ _ => 0)
  case atStart => exact ⟨rfl, rfl, rfl⟩
  case round =>
    obtain ⟨rfl, rfl, rfl⟩ := hrel
    go_wp2_with fail
    refine (isort_row A n cap base d wr HL.out (by omega) hcap H0.out).mono ?_
    rintro e W ⟨rfl, h2, h3⟩
    have HX := Lib.hid (And.intro h2 h3)
    clear h2 h3
    go_wp2_with fail
    go_loopw [6] (fun b V => b = .int .i64 20 ∧ V = W) (fun _ _ => 0)
    case atStart => exact ⟨rfl, rfl⟩
    case round =>
      obtain ⟨rfl, rfl⟩ := hrel
      go_wp2
      go_end0
      exact ⟨rfl, HX.out.1, HX.out.2⟩
set_option maxHeartbeats 1000000 in
theorem sortStable_any (A : Option Addr) (n cap base : Nat) (d : List Sp) (w : World) (hl : d.length = n) (hn : n < 20) (hcap : n ≤ cap) (hown : w.ownsRow base 28 3 (.slice A n cap) n (spsC d)) :
    Calls Try.prog 30 #[.slice A n cap, cmpV] w (SortP w base (.slice A n cap) n d) := by
  have H0 := Lib.hid hown
  have HL := Lib.hid hl
  clear hown hl
  go_enter Try.func30, Try.ntmps30
  go_wp2_with fail
  refine (stable_any A n cap base d w HL.out hn hcap H0.out).mono ?_
  rintro e W ⟨rfl, h2, h3⟩
  have HX := Lib.hid (And.intro h2 h3)
  clear h2 h3
  go_wp2
  go_end0
  exact ⟨rfl, HX.out.1, HX.out.2⟩
set_option maxHeartbeats 1000000 in
theorem clone_any (A : Option Addr) (n c : Nat) (l : List Sp) (w : World) (hl : l.length = n) (hn : n ≤ 1000000) (hr : RdS w A l) (hA : A = none → c = 0) (hnc : n ≤ c) :
    Calls Try.prog 29 #[.slice A n c] w fun e w' => ∃ A' cap, e = .returned (.slice A' n cap) ∧ n ≤ cap ∧ cap ≤ 9223372036854775807 ∧ (A' = none → cap = 0) ∧ w'.ownsRow w.heap.size 28 3 (.slice A' n cap) n (spsC l) ∧ Below w.heap.size w w' := by
  cases A with
  | none =>
    obtain rfl : c = 0 := hA rfl
    obtain rfl : n = 0 := by omega
    have : l = [] := List.eq_nil_of_length_eq_zero hl
    subst this
    clear hr hA hl
    have heq := fun W => Lib.run_eql_slice_nil (P := Try.prog) W 29 28 none 0 0 0 0 Try.underlying29
    go_enter Try.func29, Try.ntmps29
    go_wp2
    go_ret
    exact ⟨none, 0, rfl, Nat.le_refl _, by omega, fun _ => rfl, own_nil _ _ _ _, Below.refl _ _⟩
  | some ad =>
    have hb1 : Below w.heap.size w (w.alloc (.cells #[] 28)) := (Below.refl _ _).alloc (Nat.le_refl _) _
    have hown0 := World.ownsRow_lit (base := w.heap.size) (e := 28) (size := 3) w #[] 0 (Nat.le_refl _) (by unfold maxLen; omega) (by simp)
    obtain ⟨v', w', hrun, ho, hg, hv⟩ := run_append_rows Try.underlying29 splice_info rfl (by omega) (by omega) _ w.heap.size _ 0 [] hown0 (by simp) (some ad) n c (spsC l) (by rw [spsC_len, hl]) (RdS.below hr hb1) (spsC_one · l) (by omega)
    obtain ⟨A', cap', rfl, h1, h2, h3⟩ := own_form ho
    have hb2 := hb1.grown hg (by simp) (own_base hown0)
    have HO := Lib.hid (And.intro ho (And.intro hb2 h3))
    have HRUN := Lib.hid hrun
    clear ho hg hv hr hrun h3 hb2 hb1 hown0 hA
    have heq := fun W => Lib.run_eql_slice_nil (P := Try.prog) W 29 28 (some ad) n c 0 0 Try.underlying29
    go_enter Try.func29, Try.ntmps29
    go_wp2_with (at_builtin; refine wpList_append_known rfl _ (.tmp 6) 29 rfl _ (.slice (some ad) n c) _ _ rfl rfl HRUN.out ?_)
    go_ret
    have ho := HO.out.1
    have e0 : 0 + n = n := by omega
    simp only [List.nil_append, e0] at ho
    rw [e0] at h1
    exact ⟨A', cap', by simp, h1, h2, HO.out.2.2, ho, HO.out.2.1⟩
set_option maxHeartbeats 1000000 in
theorem merge_any (A : Option Addr) (n c : Nat) (l : List Sp) (w : World) (hl : l.length = n) (hn : n < 20) (hr : RdS w A l) (hA : A = none → c = 0) (hnc : n ≤ c) :
    Calls Try.prog 14 #[.slice A n c] w (NewS w (mergeUp l n)) := by
  have HL := Lib.hid (And.intro hl (And.intro hr hA))
  clear hl hr hA
  go_enter Try.func14, Try.ntmps14
  go_wp2_with fail
  refine (clone_any A n c l w HL.out.1 (by omega) HL.out.2.1 HL.out.2.2 hnc).mono ?_
  rintro e W1 ⟨A', cap, rfl, h1, h2, h3, h4, h5⟩
  have HX := Lib.hid (And.intro h3 (And.intro h4 h5))
  clear h3 h4 h5
  go_wp2_with fail
  refine (sortStable_any A' n cap w.heap.size l W1 HL.out.1 hn h1 HX.out.2.1).mono ?_
  rintro e W2 ⟨rfl, g1, g2⟩
  have hb := HX.out.2.2.grown g2 HX.out.2.2.size (own_base HX.out.2.1)
  rw [HL.out.1] at g1
  have HY := Lib.hid (And.intro g1 hb)
  clear g1 g2 hb
  go_wp2
  go_ret
  exact ⟨A', n, cap, rfl, by rw [mergeUp_len], h1, h2, HX.out.1, RdC.own HY.out.1, HY.out.2⟩
end Go.Proofs.Ytegamojidckmcaa
