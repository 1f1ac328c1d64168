/- At, Indent, Blank, Break, and the example. -/
import Derived.Test.YtlmhcaigjcdkeaaSplit
import Derived.Deep.RegionHeld3
import Derived.Deep.DeepCutAuto
namespace Go.Proofs.Ytlmhcaigjcdkeaa
open Go.RowKit
set_option linter.unusedVariables false

def AtP (w : World) (p : Int × Int) (e : Ending) (w' : World) : Prop := e = .returned (.tuple #[.int .i64 p.1, .int .i64 p.2]) ∧ ∃ n, w' = w.drewN n

def Small (ls : List Ln) : Prop := ∀ k, (lnAt ls k).f ≤ 1000000 ∧ (lnAt ls k).t ≤ 1000000 ∧ (lnAt ls k).n ≤ 1000000

set_option maxHeartbeats 1000000 in
theorem at_any (A : Option Addr) (n c : Nat) (ls : List Ln) (o : Int) (w : World) (hl : ls.length = n) (hnc : n ≤ c) (hn : n ≤ 1000000) (ho : -9223372036854775808 ≤ o ∧ o ≤ 9223372036854775807) (hs : Small ls) (hr : RdL w A ls) :
    Calls Try.prog 15 #[.slice A n c, .int .i64 o] w (AtP w (atF ls o)) := by
  have HS := Lib.hid hs
  have HR := Lib.hid hr
  have HL := Lib.hid hl
  obtain ⟨ho1, ho2⟩ := ho
  clear hs hr hl
  go_enter Try.func15, Try.ntmps15
  go_wp2
  go_loop [6] (fun i => ∃ k : Nat, k ≤ n ∧ i = .int .i64 ((k : Int) - 1) ∧ Hid (lastI (atP ls o) n = lastI (atP ls o) k)) (fun i => (intOf i + 1).toNat)
  case atStart => exact ⟨n, by omega, rfl, rfl⟩
  case round =>
    obtain ⟨k, hk, rfl, HK⟩ := hrel
    by_cases h0 : 0 < k
    · obtain ⟨b, off, rfl, hbl, hc⟩ := HR.out.addr (by rw [HL.out]; omega)
      obtain ⟨j, rfl⟩ : ∃ j, k = j + 1 := ⟨k - 1, by omega⟩
      obtain ⟨hc1, _, _⟩ := hc j (by rw [HL.out]; omega)
      have hsm := (HS.out j).1
      have hstep : lastI (atP ls o) (j + 1) = if atP ls o j then some j else lastI (atP ls o) j := rfl
      have hp : atP ls o j = decide (((lnAt ls j).f : Int) ≤ o) := rfl
      have hfin : lastI (atP ls o) n = some j → atF ls o = ((j : Int), o - ((lnAt ls j).f : Int)) := by
        intro h; unfold atF; rw [HL.out, h]; rfl
      have HST := Lib.hid (And.intro hstep (And.intro hp hfin))
      clear hstep hc hp hfin
      generalize lnAt ls j = l at *
      have e1 : ((j + 1 : Nat) : Int) - 1 = (j : Int) := by omega
      rw [e1]
      clear e1
      by_cases hle : ((l.f : Int) ≤ o)
      · have hf := HST.out.2.2 (by rw [HK.out, HST.out.1, HST.out.2.1, decide_eq_true hle]; rfl)
        rw [hf]
        clear hf
        go_wp2_with fail
        go_quiet (fail)
        go_wp2
        go_ret2
        exact ⟨rfl, _, rfl⟩
      · have d : decide ((l.f : Int) ≤ o) = false := decide_eq_false hle
        have hk2 : lastI (atP ls o) n = lastI (atP ls o) j := by rw [HK.out, HST.out.1, HST.out.2.1, d]; rfl
        have HK2 := Lib.hid hk2
        clear hk2 HK HST
        go_wp2
        go_round
        case rel => exact ⟨j, by omega, by go_num, HK2⟩
        case measure => simp [intOf]
    · obtain rfl : k = 0 := by omega
      have hf : atF ls o = (-1, 0) := by unfold atF; rw [HL.out, HK.out]; rfl
      have HF := Lib.hid hf
      clear hf HK
      go_wp2
      go_ret2
      rw [HF.out]
      exact ⟨rfl, 0, rfl⟩

set_option maxHeartbeats 1000000 in
theorem indent_any (b off : Nat) (n c : Nat) (zs : List Int) (l : Ln) (w : World) (hl : zs.length = n) (hnc : n ≤ c) (hn : n ≤ 1000000) (hr : RdB w (some ⟨b, off, none⟩) zs) (hft : l.f ≤ l.t) (htn : l.t ≤ n) (j : Nat) (hj : indF zs l = j) :
    Calls Try.prog 10 #[.slice (some ⟨b, off, none⟩) n c, lnV l] w fun e w' => e = .returned (.int .i64 (j : Int)) ∧ Below w.heap.size w w' := by
  have HR := Lib.hid hr
  have HL := Lib.hid hl
  have HJ := Lib.hid hj
  clear hr hl hj
  unfold lnV
  go_enter Try.func10, Try.ntmps10
  go_wp2
  go_loop [6] (fun i => ∃ k : Nat, l.f + k ≤ l.t ∧ i = .int .i64 ((l.f : Int) + k) ∧ Hid (∀ j, j < k → zs.getD (l.f + j) 0 = 32)) (fun i => l.t - (intOf i).toNat)
  case atStart => exact ⟨0, by omega, by simp, fun j h => by omega⟩
  case round =>
    obtain ⟨k, hk, rfl, HK⟩ := hrel
    by_cases hlt : l.f + k < l.t
    · obtain ⟨b', off', e, hc⟩ := HR.out.addr (by rw [HL.out]; omega)
      injection e with e; injection e with e1 e2; subst e1 e2
      have hc1 := hc (l.f + k) (by rw [HL.out]; omega)
      have hbl : b < w.heap.size := World.block_lt_of_cell? _ _ hc1
      have d1 : (l.f : Int) + (k : Int) < (l.t : Int) := by omega
      have d2 : (l.f : Int) + (k : Int) < (n : Int) := by omega
      clear hc
      by_cases h32 : zs.getD (l.f + k) 0 = 32
      · have hk2 : ∀ j, j < k + 1 → zs.getD (l.f + j) 0 = 32 := by
          intro j hj
          by_cases he : j = k
          · subst he; exact h32
          · exact HK.out j (by omega)
        have HK2 := Lib.hid hk2
        rw [h32] at hc1
        clear hk2 h32
        go_wp2
        go_round
        case rel => exact ⟨k + 1, by omega, by go_num, HK2⟩
        case measure => simp [intOf]; omega
      · have hst := indF_stop zs l k (by omega) (by rw [HL.out]; omega) HK.out (.inr h32)
        have h32' : (zs.getD (l.f + k) 0 == 32) = false := beq_eq_false_iff_ne.2 h32
        rw [HJ.out] at hst
        subst hst
        clear h32
        generalize zs.getD (l.f + j) 0 = z at *
        go_wp2
        go_ret
        exact ⟨ret_int (by omega), (Below.refl _ _).alloc (Nat.le_refl _) _⟩
    · have hst := indF_stop zs l k (by omega) (by rw [HL.out]; omega) HK.out (.inl (by omega))
      rw [HJ.out] at hst
      subst hst
      have d1 : decide ((l.f : Int) + (j : Int) < (l.t : Int)) = false := decide_eq_false (by omega)
      go_wp2
      go_ret
      exact ⟨ret_int (by omega), (Below.refl _ _).alloc (Nat.le_refl _) _⟩

set_option maxHeartbeats 1000000 in
theorem blank_any (b off : Nat) (n c : Nat) (zs : List Int) (l : Ln) (w : World) (hl : zs.length = n) (hnc : n ≤ c) (hn : n ≤ 1000000) (hr : RdB w (some ⟨b, off, none⟩) zs) (hft : l.f ≤ l.t) (htn : l.t ≤ n) (v : Bool) (hv : blkF zs l = v) :
    Calls Try.prog 11 #[.slice (some ⟨b, off, none⟩) n c, lnV l] w fun e w' => e = .returned (.bool v) ∧ Below w.heap.size w w' := by
  obtain ⟨j, hj⟩ : ∃ j, indF zs l = j := ⟨_, rfl⟩
  have hjb := indF_le zs l hft
  rw [hj] at hjb
  have hv' : ((l.f : Int) + (j : Int) == (l.t : Int)) = v := by
    rw [← hv]; unfold blkF; rw [hj]; apply bool_iff; simp; omega
  have HR := Lib.hid hr
  have HL := Lib.hid hl
  have HJ := Lib.hid hj
  have HV := Lib.hid hv'
  clear hr hl hj hv hv'
  unfold lnV
  go_enter Try.func11, Try.ntmps11
  go_wp2
  have hb0 : Below w.heap.size w (w.alloc (.cells #[.int .i64 (l.f : Int), .int .i64 (l.t : Int), .int .i64 (l.n : Int)] 28)) := (Below.refl _ _).alloc (Nat.le_refl _) _
  have hs1 : w.heap.size < (w.alloc (.cells #[.int .i64 (l.f : Int), .int .i64 (l.t : Int), .int .i64 (l.n : Int)] 28)).heap.size := by simp
  have hc0 : (w.alloc (.cells #[.int .i64 (l.f : Int), .int .i64 (l.t : Int), .int .i64 (l.n : Int)] 28)).cell? ⟨w.heap.size, 0, none⟩ = some (.int .i64 (l.f : Int)) := by simp [World.cell?_alloc_new]
  have hc1 : (w.alloc (.cells #[.int .i64 (l.f : Int), .int .i64 (l.t : Int), .int .i64 (l.n : Int)] 28)).cell? ⟨w.heap.size, 1, none⟩ = some (.int .i64 (l.t : Int)) := by simp [World.cell?_alloc_new]
  have hc2 : (w.alloc (.cells #[.int .i64 (l.f : Int), .int .i64 (l.t : Int), .int .i64 (l.n : Int)] 28)).cell? ⟨w.heap.size, 2, none⟩ = some (.int .i64 (l.n : Int)) := by simp [World.cell?_alloc_new]
  generalize w.alloc (.cells #[.int .i64 (l.f : Int), .int .i64 (l.t : Int), .int .i64 (l.n : Int)] 28) = W at *
  have HB0 := Lib.hid hb0
  clear hb0
  go_region_held3 (fun w' => w'.cell? ⟨w.heap.size, 0, none⟩ = some (.int .i64 (l.f : Int)) ∧ w'.cell? ⟨w.heap.size, 1, none⟩ = some (.int .i64 (l.t : Int)) ∧ w'.cell? ⟨w.heap.size, 2, none⟩ = some (.int .i64 (l.n : Int)) ∧ w.heap.size < w'.heap.size ∧ Below w.heap.size w w')
    (first | exact ⟨hc0, hc1, hc2, hs1, HB0.out⟩ | exact ⟨hc0, hc1, hc2, hs1, HB0.out.drew⟩ | exact ⟨k0, k1, k2, k3, HB2.out⟩)
    (first | (go_at_call 10; refine (indent_any b off n c zs l W.drew HL.out hnc hn (HR.out.below HB0.out.drew) hft htn j HJ.out).mono ?_; rintro e w2 ⟨rfl, hb2⟩; have k0 := (hb2.cell (p := ⟨w.heap.size, 0, none⟩) hs1).trans hc0; have k1 := (hb2.cell (p := ⟨w.heap.size, 1, none⟩) hs1).trans hc1; have k2 := (hb2.cell (p := ⟨w.heap.size, 2, none⟩) hs1).trans hc2; have k3 := Nat.lt_of_lt_of_le hs1 hb2.size; have HB2 := Lib.hid (HB0.out.drew.trans (hb2.mono HB0.out.size)); clear hb2))
  go_wp2
  go_ret
  exact ⟨ret_bool (by rw [IntWalk.i64_in _ (by omega)]; exact HV.out), HB2.out⟩

theorem brkF_cases (zs : List Int) : ((lnF zs (bgn zs)).t = (lnF zs (bgn zs)).n → brkF zs = [10]) ∧ ((lnF zs (bgn zs)).t < (lnF zs (bgn zs)).n → brkF zs = (zs.drop (lnF zs (bgn zs)).t).take ((lnF zs (bgn zs)).n - (lnF zs (bgn zs)).t)) := by
  unfold brkF
  exact ⟨fun h => by simp only []; rw [if_pos h], fun h => by simp only []; rw [if_neg (by omega)]⟩

set_option maxHeartbeats 1000000 in
theorem break_any (A : Option Addr) (n c : Nat) (zs : List Int) (w : World) (hl : zs.length = n) (hnc : n ≤ c) (hm : c ≤ 9223372036854775807) (hb : Byte zs) (hr : RdB w A zs) (hA : A = none → c = 0) (hn : n ≤ 100000) :
    Calls Try.prog 12 #[.slice A n c] w fun e w' => e = .returned (.string (strOfNums (brkF zs))) ∧ Below w.heap.size w w' := by
  have hg := bgn_le zs
  have hbd := lnF_bd zs (bgn zs) hg
  rw [hl] at hg hbd
  obtain ⟨h1, h2, h3, _⟩ := hbd
  have HR := Lib.hid hr
  have HB := Lib.hid hb
  have HL := Lib.hid hl
  have HA := Lib.hid hA
  have HC := Lib.hid (brkF_cases zs)
  clear hr hb hl hA
  generalize hl' : lnF zs (bgn zs) = l at *
  have HL' := Lib.hid hl'
  clear hl'
  go_enter Try.func12, Try.ntmps12
  go_wp2_with fail
  refine (begin_any A n c zs w HL.out hnc hm HB.out HR.out _ rfl).mono ?_
  rintro e W0 ⟨rfl, hb0⟩
  have HB0 := Lib.hid hb0
  clear hb0
  go_wp2_with fail
  refine (lineFrom_any A n c zs W0 (bgn zs) HL.out hnc hm HB.out (HR.out.below HB0.out) HA.out hg).mono ?_
  rw [HL'.out]
  rintro e W1 ⟨rfl, hb1⟩
  have HB1 := Lib.hid (below_step HB0.out hb1)
  clear hb1
  unfold lnV
  by_cases he : l.t = l.n
  · have hbr := HC.out.1 he
    have d : ((l.t : Int) == (l.n : Int)) = true := beq_iff_eq.2 (by omega)
    have HBR := Lib.hid hbr
    clear hbr he
    go_wp2
    go_ret
    exact ⟨ret_str (by rw [HBR.out]; rfl), HB1.out.alloc HB1.out.size _⟩
  · have hbr := HC.out.2 (by omega)
    have d : ((l.t : Int) == (l.n : Int)) = false := beq_eq_false_iff_ne.2 (by omega)
    have hlt : l.t < l.n := by omega
    obtain ⟨b, off, rfl, _⟩ := HR.out.addr (by rw [HL.out]; omega)
    have hcv : ∀ o : Obj, (convert 23 9 (.slice (some ⟨b, off + l.t, none⟩) (l.n - l.t) (c - l.t))).run Try.prog (W1.alloc o) = .ok (.string (strOfNums (brkF zs))) (W1.alloc o) := by
      intro o
      rw [hbr]
      refine run_string_rd _ _ _ _ _ (by rw [List.length_take, List.length_drop, HL.out]; omega) ?_
      exact ((HR.out.below (HB1.out.alloc HB1.out.size o)).drop l.t).take _
    clear hbr he
    go_wp2
    go_ret
    exact ⟨rfl, HB1.out.alloc HB1.out.size _⟩

set_option maxHeartbeats 1000000 in
theorem wakes_any (w : World) : Calls Try.prog 13 #[] w fun e w' => e = .returned (.bool true) ∧ Below w.heap.size w w' := by
  have kc := fun (w : World) (C : Array Value) (n c : Nat) => Lib.run_convert_bytes_const (P := Try.prog) w 23 5 C n c Try.underlying23 Try.underlying5
  have hs : (splitF [97, 13, 10]).length = 1 := by decide +kernel
  have HS := Lib.hid hs
  clear hs
  have b1 : Byte [97, 13, 10] := by intro z hz; simp at hz; omega
  go_enter Try.func13, Try.ntmps13
  go_wp2_with fail
  refine (split_any _ 3 3 [97, 13, 10] _ rfl (by omega) (by omega) b1 (by exact RdB.new rfl three_at) (fun h => by cases h) (by omega)).mono ?_
  rintro e W1 ⟨A, n, cap, rfl, hn, h1, h2, h3, h4⟩
  rw [HS.out] at hn
  subst hn
  have H4 := Lib.hid h4
  clear h3 h4
  go_wp2
  go_ret
  exact ⟨rfl, ((Below.refl _ _).alloc (Nat.le_refl _) _).trans (H4.out.mono (by simp))⟩
end Go.Proofs.Ytlmhcaigjcdkeaa
