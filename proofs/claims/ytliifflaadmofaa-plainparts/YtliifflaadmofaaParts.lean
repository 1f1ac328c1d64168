/-
  Proved: the law 'scholium/scholiumlaw04.PlainParts' returns true for every input, and every argument reads as it did before. No conditions.
-/
import Derived.Test.YtliifflaadmofaaRows
import Derived.Test.YtliifflaadmofaaPlLaw
import Derived.Test.YtliifflaadmofaaKeep
import Derived.WalkKit
import Derived.ProofKit
import Derived.OpenShut
import Derived.ShutString
namespace Go.Proofs.Ytliifflaadmofaa.plainParts
open Go.ChangeShapes Go.WideShapes Go.ChangeAt Go.RowKit
open Go.ChangeMaps (open_string shut_string)
set_option linter.unusedVariables false      -- a walk need not use every 'w<i>' (that an integer argument fits its kind)

theorem own : ownKnob Try.prog.godebug = none := by kernel_rfl

def nots : List ByteArray := [⟨#[]⟩, ⟨#[45, 32, 97]⟩, ⟨#[63, 32, 97]⟩, ⟨#[58, 32, 97]⟩, ⟨#[45]⟩, ⟨#[35, 97]⟩, ⟨#[38, 97]⟩, ⟨#[42, 97]⟩, ⟨#[33, 97]⟩, ⟨#[124]⟩, ⟨#[62]⟩, ⟨#[39, 97, 39]⟩, ⟨#[34, 97, 34]⟩, ⟨#[37, 97]⟩, ⟨#[64, 97]⟩, ⟨#[96, 97]⟩, ⟨#[91, 97]⟩, ⟨#[123, 97]⟩, ⟨#[93]⟩, ⟨#[125]⟩, ⟨#[44, 97]⟩, ⟨#[45, 45, 45, 32, 97]⟩, ⟨#[46, 46, 46]⟩, ⟨#[97, 58, 32, 98]⟩, ⟨#[97, 32, 35, 98]⟩, ⟨#[32, 97]⟩, ⟨#[97, 32]⟩, ⟨#[97, 9, 98]⟩, ⟨#[97, 58]⟩, ⟨#[97, 10, 98]⟩]
theorem nots_facts : ∀ d ∈ nots, d.size ≤ 10 ∧ ∀ fl : Bool, validF (byt d) fl = false := by decide +kernel
theorem oks_facts : (∀ fl : Bool, validF [45, 97] fl = true ∧ validF [97, 58, 98] fl = true ∧ validF [97, 35, 98] fl = true) ∧ validF [97, 44, 32, 98] false = true ∧ validF [97, 44, 32, 98] true = false := by decide +kernel
theorem nots_at (k : Nat) (hk : k < 30) : ∃ d, d.size ≤ 10 ∧ (∀ fl : Bool, validF (byt d) fl = false) ∧ (nots.map Value.string).toArray[k]? = some (.string d) := by
  have hl : nots.length = 30 := rfl
  have hk' : k < nots.length := by omega
  obtain ⟨h1, h2⟩ := nots_facts nots[k] (List.getElem_mem hk')
  exact ⟨nots[k], h1, h2, by simp [hk']⟩
theorem slice_hI (A : Option Addr) (n c hi : Nat) (v : Int) (hv : v = (hi : Int)) (h2 : hi ≤ n) (hnc : n ≤ c) (hA : A = none → c = 0) :
    ∀ W, (Instr.slice 23 (.slice A n c) none (some (.int .i64 v)) none).run Try.prog W = .ok (.slice A hi c) W := by
  subst hv
  exact slice_h A n c hi h2 hnc hA

set_option maxHeartbeats 8000000 in
set_option maxRecDepth 100000 in
theorem walk (a0 : ByteArray) (a1 : Bool) (w0 : a0.size ≤ maxLen) (w : World) :
    Calls Try.prog 6 #[.string a0, .bool a1] w fun e w' => e = .returned (.bool true) ∧ Below w.heap.size w w' := by
  go_enter Try.func6, Try.ntmps6
  go_wp2_with fail
  refine (text_any a0 80 _ (by omega) w0).mono ?_
  rintro e w' ⟨t, _, ht, rfl, rfl⟩
  clear w0
  obtain ⟨cap, W1, hrun, hle, hmax, hrd, hbel⟩ := bytes_of t (by omega) w
  have HL : Hid ((byt t).length = t.size) := byt_len t
  have HY := Lib.hid (byt_byte t)
  have HB := Lib.hid hbel
  have HR := Lib.hid hrd
  have HG : Hid (∀ k, k < t.size → ∀ W, Below W1.heap.size W1 W → W.cell? ⟨w.heap.size, k, none⟩ = some (.int .u8 ((byt t).getD k 0))) := by
    intro k hk W hW
    have := (HR.out.below hW).addr (by rw [HL.out]; omega)
    obtain ⟨b, off, e, hc⟩ := this
    injection e with e
    injection e with e1 e2
    subst e1 e2
    have := hc k (by rw [HL.out]; exact hk)
    rwa [Nat.zero_add] at this
  clear hrd hbel
  obtain ⟨lt, hlt⟩ : ∃ v, lenF (byt t) true = v := ⟨_, rfl⟩
  obtain ⟨lf, hlf⟩ : ∃ v, lenF (byt t) false = v := ⟨_, rfl⟩
  obtain ⟨vt, hvt⟩ : ∃ v, validF (byt t) true = v := ⟨_, rfl⟩
  have hfl : lt ≤ lf := by rw [← hlt, ← hlf]; exact len_flow _
  have dfl : decide (lf < lt) = false := decide_eq_false (by omega)
  have HLT := Lib.hid hlt
  have HLF := Lib.hid hlf
  have HVT := Lib.hid hvt
  have HGO : Hid (vt = true → validF (byt t) false = true) := by
    show vt = true → _
    intro h
    rw [← HVT.out] at h
    exact valid_flow _ h
  clear hlt hlf hvt hfl
  obtain ⟨nl, hnl⟩ : ∃ v, lenF (byt t) a1 = v := ⟨_, rfl⟩
  have hnle : nl ≤ t.size := by rw [← hnl, ← HL.out]; exact len_le _ _
  have hst : decide (0 < nl) = startF (byt t) a1 := by rw [← hnl]; exact len_pos _ _
  have HN := Lib.hid hnl
  have HST := Lib.hid hst
  clear hnl hst
  go_wp2_with fail
  refine (length_any _ t.size cap (byt t) a1 W1 HL.out hle hmax HY.out HR.out nl HN.out).mono ?_
  rintro e W2 ⟨rfl, hb2⟩
  have HB2 := Lib.hid hb2
  clear hb2 hrun
  by_cases h0 : nl = 0
  · subst h0
    have hst : startF (byt t) a1 = false := by rw [← HST.out]; rfl
    have HST2 := Lib.hid hst
    have dts : decide ((t.size : Int) < 0) = false := decide_eq_false (by omega)
    clear hst HST
    rw [show ((0 : Nat) : Int) = 0 from rfl]
    go_wp2_with fail
    refine (starts_any _ t.size cap (byt t) a1 W2 HL.out hle hmax HY.out (HR.out.below HB2.out) false HST2.out).mono ?_
    rintro e W3 ⟨rfl, hb3⟩
    have HB3 := Lib.hid (below_step HB2.out hb3)
    clear hb3
    go_wp2_with fail
    refine (length_any _ t.size cap (byt t) true W3 HL.out hle hmax HY.out (HR.out.below HB3.out) lt HLT.out).mono ?_
    rintro e W4 ⟨rfl, hb4⟩
    have HB4 := Lib.hid (below_step HB3.out hb4)
    clear hb4
    go_wp2_with fail
    refine (length_any _ t.size cap (byt t) false W4 HL.out hle hmax HY.out (HR.out.below HB4.out) lf HLF.out).mono ?_
    rintro e W5 ⟨rfl, hb5⟩
    have HB5 := Lib.hid (below_step HB4.out hb5)
    clear hb5
    have HZ := Lib.hid (below_step HB.out HB5.out)
    go_upto_region 9 with fail
    go_cut [101] (fun s W => s = .bool false ∧ Hid (Below w.heap.size w W))
    case first =>
      cases vt
      · go_wp2_with fail
        refine (valid_txt HZ.out (by omega) true (byt t) rfl false HVT.out).mono ?_
        rintro e X1 ⟨rfl, hb1⟩
        have HX1 := Lib.hid hb1
        clear hb1
        go_wp2_with fail
        go_meet
        exact ⟨rfl, HX1⟩
      · go_wp2_with fail
        refine (valid_txt HZ.out (by omega) true (byt t) rfl true HVT.out).mono ?_
        rintro e X1 ⟨rfl, hb1⟩
        have HX1 := Lib.hid hb1
        clear hb1
        go_wp2_with fail
        refine (valid_txt HX1.out (by omega) false (byt t) rfl true (HGO.out (by trivial))).mono ?_
        rintro e X2 ⟨rfl, hb2⟩
        have HX2 := Lib.hid hb2
        clear hb2
        go_wp2_with fail
        go_meet
        exact ⟨rfl, HX2⟩
    case rest =>
      obtain ⟨rfl, HZ1⟩ := hcut
      go_wp2_with fail
      obtain ⟨V0, hV0⟩ : ∃ V, V = wc := ⟨_, rfl⟩
      subst hV0
      go_loopw [104] (fun i W => ∃ q : Nat, q ≤ 30 ∧ i = .int .i64 (q : Int) ∧ Hid (Below w.heap.size w W ∧ ∀ k v, (nots.map Value.string).toArray[k]? = some v → W.cell? ⟨V0.heap.size, k, none⟩ = some v)) (fun i _ => 30 - (intOf i).toNat)
      case atStart => exact ⟨0, by omega, rfl, HZ1.out.alloc HZ1.out.size _, fun k v h => by rw [World.cell?_alloc_mark]; exact h⟩
      case round =>
        obtain ⟨q, hq, rfl, HJ⟩ := hrel
        obtain ⟨V, hV⟩ : ∃ V, V = wr := ⟨_, rfl⟩
        subst hV
        by_cases hlt : q < 30
        · obtain ⟨d, hd1, hd2, hat⟩ := nots_at q hlt
          have hcell := HJ.out.2 q _ hat
          have HD2 := Lib.hid (hd2 a1)
          have dq : (q : Int) < 30 := by omega
          clear hd2 hat
          go_wp2_with fail
          refine (valid_txt (Below.refl V.heap.size V) (by omega) a1 (byt d) rfl false HD2.out).mono ?_
          rintro e X1 ⟨rfl, hb1⟩
          have HX1 := Lib.hid hb1
          clear hb1
          go_wp2_with fail
          go_roundw
          case rel => exact ⟨q + 1, by omega, by go_num, below_step HJ.out.1 HX1.out, fun k v h => cell_keep HX1.out (HJ.out.2 k v h)⟩
          case measure => simp [intOf]; omega
        · obtain rfl : q = 30 := by omega
          obtain ⟨o1, o4, o5⟩ := oks_facts
          obtain ⟨o1, o2, o3⟩ := o1 a1
          have HO1 := Lib.hid o1
          have HO2 := Lib.hid o2
          have HO3 := Lib.hid o3
          have HO4 := Lib.hid o4
          have HO5 := Lib.hid o5
          have HJ1 := Lib.hid HJ.out.1
          clear o1 o2 o3 o4 o5 HJ
          go_wp2_with fail
          refine (valid_txt HJ1.out (by decide) a1 [45, 97] rfl true HO1.out).mono ?_
          rintro e Y1 ⟨rfl, hb1⟩
          have HY1 := Lib.hid hb1
          clear hb1
          go_wp2_with fail
          refine (valid_txt HY1.out (by decide) a1 [97, 58, 98] rfl true HO2.out).mono ?_
          rintro e Y2 ⟨rfl, hb2⟩
          have HY2 := Lib.hid hb2
          clear hb2
          go_wp2_with fail
          refine (valid_txt HY2.out (by decide) a1 [97, 35, 98] rfl true HO3.out).mono ?_
          rintro e Y3 ⟨rfl, hb3⟩
          have HY3 := Lib.hid hb3
          clear hb3
          go_wp2_with fail
          refine (valid_txt HY3.out (by decide) false [97, 44, 32, 98] rfl true HO4.out).mono ?_
          rintro e Y4 ⟨rfl, hb4⟩
          have HY4 := Lib.hid hb4
          clear hb4
          go_wp2_with fail
          refine (valid_txt HY4.out (by decide) true [97, 44, 32, 98] rfl false HO5.out).mono ?_
          rintro e Y5 ⟨rfl, hb5⟩
          have HY5 := Lib.hid hb5
          clear hb5
          go_wp2_with fail
          refine (wakes_any Y5).mono ?_
          rintro e Y6 ⟨rfl, hb6⟩
          have HY6 := Lib.hid (below_step HY5.out hb6)
          clear hb6
          go_wp2_with fail
          go_ret
          exact ⟨rfl, HY6.out⟩
  · obtain ⟨j, rfl⟩ : ∃ j, nl = j + 1 := ⟨nl - 1, by omega⟩
    have hst : startF (byt t) a1 = true := by rw [← HST.out]; exact decide_eq_true (by omega)
    have HST2 := Lib.hid hst
    have dts : decide ((t.size : Int) < (j : Int) + 1) = false := decide_eq_false (by omega)
    have dneg : decide ((j : Int) + 1 < 0) = false := decide_eq_false (by omega)
    have dpos : (0 : Int) < (j : Int) + 1 := by omega
    have djt : (j : Int) < (t.size : Int) := by omega
    have dzt : (0 : Int) < (t.size : Int) := by omega
    clear hst HST
    rw [show ((j + 1 : Nat) : Int) = (j : Int) + 1 by omega]
    go_wp2_with fail
    refine (starts_any _ t.size cap (byt t) a1 W2 HL.out hle hmax HY.out (HR.out.below HB2.out) true HST2.out).mono ?_
    rintro e W3 ⟨rfl, hb3⟩
    have HB3 := Lib.hid (below_step HB2.out hb3)
    clear hb3
    go_wp2_with fail
    refine (length_any _ t.size cap (byt t) true W3 HL.out hle hmax HY.out (HR.out.below HB3.out) lt HLT.out).mono ?_
    rintro e W4 ⟨rfl, hb4⟩
    have HB4 := Lib.hid (below_step HB3.out hb4)
    clear hb4
    go_wp2_with fail
    refine (length_any _ t.size cap (byt t) false W4 HL.out hle hmax HY.out (HR.out.below HB4.out) lf HLF.out).mono ?_
    rintro e W5 ⟨rfl, hb5⟩
    have HB5 := Lib.hid (below_step HB4.out hb5)
    clear hb5
    have hc0 := HG.out 0 (by omega) W5 HB5.out
    have hcj := HG.out j (by omega) W5 HB5.out
    have hl32 := len_last (byt t) a1 (by rw [HN.out]; omega)
    rw [HN.out, show j + 1 - 1 = j by omega] at hl32
    have hpart := len_part (byt t) a1 (j + 1) HN.out (by omega)
    rw [show j + 1 - 1 = j by omega] at hpart
    obtain ⟨al, hal⟩ : ∃ al, ((decide (j = 0) && ((byt t).getD 0 0 == 45 || (byt t).getD 0 0 == 63 || (byt t).getD 0 0 == 58)) || (byt t).getD j 0 == 58) = al := ⟨_, rfl⟩
    have hpl : al = false → lenF ((byt t).take (j + 1)) a1 = j + 1 := by
      intro h
      rw [← hal] at h
      simp only [Bool.or_eq_false_iff, Bool.and_eq_false_iff, decide_eq_false_iff_not] at h
      refine hpart ?_ (by simpa using h.2)
      rintro ⟨e1, e2⟩
      rcases h.1 with g | g
      · omega
      · unfold ent at e2
        rw [List.contains_iff_mem] at e2
        simp only [List.mem_cons, List.not_mem_nil, or_false] at e2
        simp only [beq_eq_false_iff_ne] at g
        omega
    have e32 : ((byt t).getD j 0 == 32) = false := beq_eq_false_iff_ne.2 hl32
    generalize (byt t).getD 0 0 = x at *
    generalize (byt t).getD j 0 = y at *
    have HAL := Lib.hid hal
    have HPL := Lib.hid hpl
    clear hpart hl32 hal hpl
    go_upto_region 6 with fail
    go_cut [7] (fun s W => s = .bool al ∧ W = W5)
    case first =>
      by_cases hj0 : j = 0
      · have e1 : ((j : Int) + 1 == 1) = true := beq_iff_eq.2 (by omega)
        have HE : Hid (al = (x == 45 || x == 63 || x == 58 || y == 58)) := by show al = _; rw [← HAL.out, decide_eq_true hj0]; rfl
        clear hj0
        go_wp2_with fail
        all_goals go_meet
        all_goals rw [HE.out]
        all_goals first
          | exact ⟨rfl, rfl⟩
          | (refine ⟨?_, rfl⟩; simp [*]; done)
      · have e1 : ((j : Int) + 1 == 1) = false := beq_eq_false_iff_ne.2 (by omega)
        have HE : Hid (al = (y == 58)) := by show al = _; rw [← HAL.out, decide_eq_false hj0]; rfl
        clear hj0
        go_wp2_with fail
        all_goals go_meet
        all_goals rw [HE.out]
        all_goals first
          | exact ⟨rfl, rfl⟩
          | (refine ⟨?_, rfl⟩; simp [*]; done)
    case rest =>
      obtain ⟨rfl, rfl⟩ := hcut
      go_upto_region 7 with fail
      go_cut [94] (fun s W => s = .bool false ∧ Hid (Below W1.heap.size W1 W))
      case first =>
        cases al
        · have hsl := slice_hI (some ⟨w.heap.size, 0, none⟩) t.size cap (j + 1) ((j : Int) + 1) (by omega) (by omega) hle (fun h => by cases h)
          go_wp2_with fail
          refine (length_any _ (j + 1) cap ((byt t).take (j + 1)) a1 wc (by rw [List.length_take, HL.out]; omega) (by omega) hmax (HY.out.take _) ((HR.out.below HB5.out).take _) (j + 1) (HPL.out (by trivial))).mono ?_
          rintro e W6 ⟨rfl, hb6⟩
          have HB6 := Lib.hid (below_step HB5.out hb6)
          clear hb6
          rw [show ((j + 1 : Nat) : Int) = (j : Int) + 1 by omega]
          go_wp2_with fail
          go_meet
          exact ⟨rfl, HB6⟩
        · go_wp2_with fail
          go_meet
          exact ⟨rfl, HB5⟩
      case rest =>
        obtain ⟨rfl, HB6⟩ := hcut
        have HZ := Lib.hid (below_step HB.out HB6.out)
        clear hc0 hcj e32
        go_upto_region 9 with fail
        go_cut [101] (fun s W => s = .bool false ∧ Hid (Below w.heap.size w W))
        case first =>
          cases vt
          · go_wp2_with fail
            refine (valid_txt HZ.out (by omega) true (byt t) rfl false HVT.out).mono ?_
            rintro e X1 ⟨rfl, hb1⟩
            have HX1 := Lib.hid hb1
            clear hb1
            go_wp2_with fail
            go_meet
            exact ⟨rfl, HX1⟩
          · go_wp2_with fail
            refine (valid_txt HZ.out (by omega) true (byt t) rfl true HVT.out).mono ?_
            rintro e X1 ⟨rfl, hb1⟩
            have HX1 := Lib.hid hb1
            clear hb1
            go_wp2_with fail
            refine (valid_txt HX1.out (by omega) false (byt t) rfl true (HGO.out (by trivial))).mono ?_
            rintro e X2 ⟨rfl, hb2⟩
            have HX2 := Lib.hid hb2
            clear hb2
            go_wp2_with fail
            go_meet
            exact ⟨rfl, HX2⟩
        case rest =>
          obtain ⟨rfl, HZ1⟩ := hcut
          go_wp2_with fail
          obtain ⟨V0, hV0⟩ : ∃ V, V = wc := ⟨_, rfl⟩
          subst hV0
          go_loopw [104] (fun i W => ∃ q : Nat, q ≤ 30 ∧ i = .int .i64 (q : Int) ∧ Hid (Below w.heap.size w W ∧ ∀ k v, (nots.map Value.string).toArray[k]? = some v → W.cell? ⟨V0.heap.size, k, none⟩ = some v)) (fun i _ => 30 - (intOf i).toNat)
          case atStart => exact ⟨0, by omega, rfl, HZ1.out.alloc HZ1.out.size _, fun k v h => by rw [World.cell?_alloc_mark]; exact h⟩
          case round =>
            obtain ⟨q, hq, rfl, HJ⟩ := hrel
            obtain ⟨V, hV⟩ : ∃ V, V = wr := ⟨_, rfl⟩
            subst hV
            by_cases hlt : q < 30
            · obtain ⟨d, hd1, hd2, hat⟩ := nots_at q hlt
              have hcell := HJ.out.2 q _ hat
              have HD2 := Lib.hid (hd2 a1)
              have dq : (q : Int) < 30 := by omega
              clear hd2 hat
              go_wp2_with fail
              refine (valid_txt (Below.refl V.heap.size V) (by omega) a1 (byt d) rfl false HD2.out).mono ?_
              rintro e X1 ⟨rfl, hb1⟩
              have HX1 := Lib.hid hb1
              clear hb1
              go_wp2_with fail
              go_roundw
              case rel => exact ⟨q + 1, by omega, by go_num, below_step HJ.out.1 HX1.out, fun k v h => cell_keep HX1.out (HJ.out.2 k v h)⟩
              case measure => simp [intOf]; omega
            · obtain rfl : q = 30 := by omega
              obtain ⟨o1, o4, o5⟩ := oks_facts
              obtain ⟨o1, o2, o3⟩ := o1 a1
              have HO1 := Lib.hid o1
              have HO2 := Lib.hid o2
              have HO3 := Lib.hid o3
              have HO4 := Lib.hid o4
              have HO5 := Lib.hid o5
              have HJ1 := Lib.hid HJ.out.1
              clear o1 o2 o3 o4 o5 HJ
              go_wp2_with fail
              refine (valid_txt HJ1.out (by decide) a1 [45, 97] rfl true HO1.out).mono ?_
              rintro e Y1 ⟨rfl, hb1⟩
              have HY1 := Lib.hid hb1
              clear hb1
              go_wp2_with fail
              refine (valid_txt HY1.out (by decide) a1 [97, 58, 98] rfl true HO2.out).mono ?_
              rintro e Y2 ⟨rfl, hb2⟩
              have HY2 := Lib.hid hb2
              clear hb2
              go_wp2_with fail
              refine (valid_txt HY2.out (by decide) a1 [97, 35, 98] rfl true HO3.out).mono ?_
              rintro e Y3 ⟨rfl, hb3⟩
              have HY3 := Lib.hid hb3
              clear hb3
              go_wp2_with fail
              refine (valid_txt HY3.out (by decide) false [97, 44, 32, 98] rfl true HO4.out).mono ?_
              rintro e Y4 ⟨rfl, hb4⟩
              have HY4 := Lib.hid hb4
              clear hb4
              go_wp2_with fail
              refine (valid_txt HY4.out (by decide) true [97, 44, 32, 98] rfl false HO5.out).mono ?_
              rintro e Y5 ⟨rfl, hb5⟩
              have HY5 := Lib.hid hb5
              clear hb5
              go_wp2_with fail
              refine (wakes_any Y5).mono ?_
              rintro e Y6 ⟨rfl, hb6⟩
              have HY6 := Lib.hid (below_step HY5.out hb6)
              clear hb6
              go_wp2_with fail
              go_ret
              exact ⟨rfl, HY6.out⟩

/-! ### THE ROW's STEP: WRITTEN OUT: LEAVE IT -/
set_option maxRecDepth 100000 in
theorem lifted (os : Os) (started : os.Started) (H : Type) (enc : TypeId × Value → H) :
    ReturnsInHanded {} Try.checked os 6 .any (Rows.plainPartsSpec.pre6 enc Try.prog Try.f6 Rows.plainPartsRow.domain false) (Rows.plainPartsSpec.post enc Try.prog Try.f6 false true false false) := by
  refine returnsInHanded_of_change (C := Try.checked) own started (by kernel_rfl) Try.func6
    (ChangeSpec.witness6 (enc := enc) (C := Try.checked) false ⟨#[], #[.string ByteArray.empty, .bool false], []⟩ 8 (by kernel_rfl) (by kernel_rfl) (by kernel_rfl) (by kernel_rfl)) ?_
  intro W base args ds gs before hval0 hW hcnd _
  have hval : ∀ (j : Nat) t v, Try.f6.params[j]? = some t → args[j]? = some v → Value.okWide Try.prog W .any base t v := hval0
  have hW' := hW
  obtain ⟨p, q, hA0, hV, rfl, hfz, hnd⟩ := hW
  have hA : DataW.TrodAll enc Try.prog W 0 (fun _ => true) true Try.f6.params.toList args.toList ds p := hA0
  rw [Try.params6] at hA hval
  obtain ⟨v0, vs0, d0, ds0, p0, q0, hargs, rfl, rfl, h0, r0⟩ := trodAll_cons hA
  obtain ⟨v1, vs1, d1, ds1, p1, q1, rfl, rfl, rfl, h1, r1⟩ := trodAll_cons r0
  obtain ⟨rfl, rfl, rfl⟩ := trodAll_nil r1
  obtain rfl : args = #[v0, v1] := by cases args; simp_all
  obtain ⟨rfl, rfl⟩ := trodVars_none hV
  obtain ⟨a0, rfl, rfl, rfl, w0⟩ := open_string Try.underlying9 (hval 0 9 v0 rfl rfl) h0
  obtain ⟨a1, rfl, rfl, rfl⟩ := open_bool Try.underlying4 (hval 1 4 v1 rfl rfl) h1
  clear hA0 hval0
  refine (walk a0 a1 w0 W).mono fun e W' ⟨he, hg⟩ => ?_
  subst he
  exact ⟨_, rfl, _, _, _, [], [], [], hW', trodAll_mk1 (shut_bool Try.underlying4 _), (trodAll_cons_mk (shut_string Try.underlying9 w0) (trodAll_cons_mk (shut_bool Try.underlying4 _) trodAll_mk0)), rfl, hg.frame _, fun h => by cases h⟩

theorem over : Rows.plainPartsRow.holds Try.pinned (OpenSpec.ofChange Rows.plainPartsSpec) :=
  OpenClaim.holds_of_wide 6 Try.f6 rfl rfl rfl rfl rfl rfl rfl ⟨rfl, rfl, rfl, rfl, rfl⟩ rfl rfl rfl rfl rfl (by kernel_rfl) Try.func6 (by kernel_rfl)
    (of_decide_eq_true (by kernel_rfl)) (by unfold Func.isWrapper; first | (rw [if_pos (by decide +kernel)]; kernel_rfl) | (rw [if_neg (by decide +kernel)]; exact ⟨rfl, rfl⟩))
    (fun os started H enc _ => lifted os started H enc)

/-- ████ THE STATEMENT ████ -/
theorem proved : Rows.PlainPartsSaid :=
  over
#print axioms proved
end Go.Proofs.Ytliifflaadmofaa.plainParts
