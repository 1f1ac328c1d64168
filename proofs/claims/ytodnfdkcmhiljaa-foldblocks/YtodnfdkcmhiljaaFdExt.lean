/- fold.extent: the column, and the line behind the last one. -/
import Derived.Test.YtodnfdkcmhiljaaFdBelo
namespace Go.Proofs.Ytodnfdkcmhiljaa
open Go.RowKit
set_option linter.unusedVariables false

/-- Lines that lie in the text. -/
def Lies (n : Nat) (ls : List Ln) : Prop := ∀ k, k < ls.length → (lnAt ls k).f ≤ (lnAt ls k).t ∧ (lnAt ls k).t ≤ n
theorem ret_two {a b a' b' : Int} (h1 : a = a') (h2 : b = b') : Ending.returned (.tuple #[.int .i64 a, .int .i64 b]) = .returned (.tuple #[.int .i64 a', .int .i64 b']) := by rw [h1, h2]
theorem belongs_int (b off : Nat) (n c : Nat) (zs : List Int) (l : Ln) (col : Nat) (u : Int) (hu : u = (col : Int)) (w : World) (hl : zs.length = n) (hnc : n ≤ c) (hm : c ≤ 9223372036854775807) (hn : n ≤ 1000000) (hb : Byte zs) (hr : RdB w (some ⟨b, off, none⟩) zs) (hft : l.f ≤ l.t) (htn : l.t ≤ n) (v : Bool) (hv : blg zs col l = v) :
    Calls Try.prog 52 #[.slice (some ⟨b, off, none⟩) n c, lnV l, .int .i64 u] w fun e w' => e = .returned (.bool v) ∧ Below w.heap.size w w' := by
  subst hu; exact belongs_any b off n c zs l col w hl hnc hm hn hb hr hft htn v hv
theorem ext_dg (zs : List Int) (ls : List Ln) (first : Nat) (parent : Int) (dg j col : Nat) (h : 0 < dg) (hj : first + nfill zs (ls.drop first) = j) (hc : min (max parent 0).toNat (zs.length + 1) + min dg (zs.length + 1) = col) : extF zs ls first parent dg = (col, j + nblg zs col (ls.drop j)) := by
  unfold extF; simp only []; rw [if_pos h, hj, hc]
theorem ext_only (zs : List Int) (ls : List Ln) (first : Nat) (parent : Int) (j base : Nat) (hj : first + nfill zs (ls.drop first) = j) (hb : min (max parent 0).toNat (zs.length + 1) = base) (ho : onlyF zs ls j parent = true) : extF zs ls first parent 0 = (base + 1, j) := by
  unfold extF; simp only []; rw [if_neg (by omega), hj, hb, if_pos ho]
theorem ext_ind (zs : List Int) (ls : List Ln) (first : Nat) (parent : Int) (j col : Nat) (hj : first + nfill zs (ls.drop first) = j) (hc : indF zs (lnAt ls j) = col) (ho : onlyF zs ls j parent = false) : extF zs ls first parent 0 = (col, j + nblg zs col (ls.drop j)) := by
  unfold extF; simp only []; rw [if_neg (by omega), hj, hc, if_neg (by rw [ho]; simp)]

set_option maxHeartbeats 8000000 in
set_option maxRecDepth 100000 in
theorem extent_neg (b off : Nat) (n c : Nat) (zs : List Int) (B : Option Addr) (m d : Nat) (ls : List Ln) (first : Nat) (P : Nat) (dg : Nat) (w : World) (hl : zs.length = n) (hnc : n ≤ c) (hm : c ≤ 9223372036854775807) (hn : n ≤ 100000) (hb : Byte zs) (hr : RdB w (some ⟨b, off, none⟩) zs)
    (hls : ls.length = m) (hmd : m ≤ d) (hm1 : m ≤ 100000) (hrl : RdL w B ls) (hv : Lies n ls) (hf : first ≤ m) (hp2 : P ≤ 100000) (hdg : dg ≤ 100000) :
    Calls Try.prog 33 #[.slice (some ⟨b, off, none⟩) n c, .slice B m d, .int .i64 (first : Int), .int .i64 (-1), .int .i64 (dg : Int)] w fun e w' => e = .returned (.tuple #[.int .i64 ((extF zs ls first (-1) dg).1 : Int), .int .i64 ((extF zs ls first (-1) dg).2 : Int)]) ∧ Below w.heap.size w w' := by
  have HR := Lib.hid hr
  have HB := Lib.hid hb
  have HL := Lib.hid (And.intro hl hls)
  have HRL := Lib.hid hrl
  have HV := Lib.hid hv
  clear hr hb hl hls hrl hv
  have HPP : Hid (True) := trivial
  go_enter Try.func33, Try.ntmps33
  go_wp2_with fail
  go_loopw [14] (fun i W => ∃ j : Nat, first ≤ j ∧ j ≤ m ∧ i = .int .i64 (j : Int) ∧ Hid (first + nfill zs (ls.drop first) = j + nfill zs (ls.drop j) ∧ Below w.heap.size w W)) (fun i _ => m - (intOf i).toNat)
  case atStart => exact ⟨first, by omega, by omega, rfl, rfl, Below.refl _ _⟩
  case round =>
    obtain ⟨j, hj, hjm, rfl, HK⟩ := hrel
    by_cases hlt : j < m
    · have hst := nfill_step zs ls j (by rw [HL.out.2]; exact hlt)
      have dj : (j : Int) < (m : Int) := by omega
      obtain ⟨g, hg⟩ : ∃ g, blkF zs (lnAt ls j) = g := ⟨_, rfl⟩
      rw [hg] at hst
      have HG := Lib.hid hg
      have HST := Lib.hid hst
      clear hg hst
      obtain ⟨bL, offL, hBL, hbL, hcL⟩ := (HRL.out.below HK.out.2).addr (by rw [HL.out.2]; omega)
      obtain ⟨f0, f1, f2⟩ := hcL j (by rw [HL.out.2]; exact hlt)
      obtain ⟨v0, v1⟩ := HV.out j (by rw [HL.out.2]; exact hlt)
      have HBL := Lib.hid hBL
      clear hcL hBL
      obtain ⟨x, hx⟩ : ∃ x, lnAt ls j = x := ⟨_, rfl⟩
      rw [hx] at f0 f1 f2 v0 v1 HG
      have hBL := HBL.out
      clear hx HBL
      subst hBL
      go_wp2_with fail
      refine (blank_any b off n c zs x wr HL.out.1 hnc (by omega) (HR.out.below HK.out.2) v0 v1 g HG.out).mono ?_
      rintro e WQ ⟨rfl, hbq⟩
      have HBQ := Lib.hid (below_step HK.out.2 hbq)
      clear hbq f0 f1 f2 v0 v1 HG
      cases g with
      | true =>
        go_wp2_with fail
        go_roundw
        case rel =>
          refine ⟨j + 1, by omega, by omega, by go_num, ?_, HBQ.out⟩
          rw [HK.out.1, HST.out]; simp; omega
        case measure => simp [intOf]; omega
      | false =>
        have HJ : Hid (first + nfill zs (ls.drop first) = j) := by
          show _ = _
          rw [HK.out.1, HST.out]; simp
        clear HK HST
        by_cases hd0 : 0 < dg
        · have dd0 : (0 : Int) < (dg : Int) := by omega
          by_cases hdn : dg ≤ n + 1
          · have q1 : ¬ (n : Int) + 1 < (dg : Int) := by omega
            have q2 : decide ((n : Int) + 1 < (dg : Int)) = false := decide_eq_false q1
            have he := ext_dg zs ls first (-1) dg j (0 + dg) hd0 HJ.out (by rw [HL.out.1]; omega)
            have HE := Lib.hid he
            clear he
            go_wp2_with fail
            go_loopw [11] (fun i W => ∃ p : Nat, j ≤ p ∧ p ≤ m ∧ i = .int .i64 (p : Int) ∧ Hid (j + nblg zs (0 + dg) (ls.drop j) = p + nblg zs (0 + dg) (ls.drop p) ∧ Below w.heap.size w W)) (fun i _ => m - (intOf i).toNat)
            case atStart => exact ⟨j, by omega, by omega, rfl, rfl, HBQ.out⟩
            case round =>
              obtain ⟨p, hp, hpm, rfl, HP⟩ := hrel
              by_cases hlt2 : p < m
              · have hst2 := nblg_step zs (0 + dg) ls p (by rw [HL.out.2]; exact hlt2)
                obtain ⟨bL3, offL3, hBLX, hbL3, hcL⟩ := (HRL.out.below HP.out.2).addr (by rw [HL.out.2]; omega)
                first | subst hBLX | (injection hBLX with hBLX; injection hBLX with hq1 hq2; subst hq1 hq2)
                obtain ⟨f0, f1, f2⟩ := hcL p (by rw [HL.out.2]; exact hlt2)
                obtain ⟨v0, v1⟩ := HV.out p (by rw [HL.out.2]; exact hlt2)
                have dp : (p : Int) < (m : Int) := by omega
                obtain ⟨g, hg⟩ : ∃ g, blg zs (0 + dg) (lnAt ls p) = g := ⟨_, rfl⟩
                rw [hg] at hst2
                have HG := Lib.hid hg
                have HST2 := Lib.hid hst2
                clear hcL hg hst2
                generalize lnAt ls p = x at *
                go_wp2_with fail
                refine (belongs_int b off n c zs x (0 + dg) _ (by omega) wr HL.out.1 hnc hm (by omega) HB.out (HR.out.below HP.out.2) v0 v1 g HG.out).mono ?_
                rintro e W2 ⟨rfl, hb2⟩
                have HB2 := Lib.hid (below_step HP.out.2 hb2)
                clear hb2 f0 f1 f2
                cases g with
                | true =>
                  go_wp2_with fail
                  go_roundw
                  case rel =>
                    refine ⟨p + 1, by omega, by omega, by go_num, ?_, HB2.out⟩
                    rw [HP.out.1, HST2.out]; simp; omega
                  case measure => simp [intOf]; omega
                | false =>
                  go_wp2_with fail
                  go_ret2
                  refine ⟨?_, HB2.out⟩
                  rw [HE.out, HP.out.1, HST2.out]
                  exact ret_two (by first | rfl | (simp only []; omega)) (by simp)
              · obtain rfl : p = m := by omega
                have dp : decide (p < p) = false := decide_eq_false (by omega)
                go_wp2_with fail
                go_ret2
                refine ⟨?_, HP.out.2⟩
                first | rw [HE.out, HP.out.1, List.drop_eq_nil_of_le (by rw [HL.out.2]; omega)] | rw [HE.out, List.drop_eq_nil_of_le (by rw [HL.out.2]; omega)]
                exact ret_two (by first | rfl | (simp only []; omega)) (by simp [nblg])
          · have q1 : (n : Int) + 1 < (dg : Int) := by omega
            have he := ext_dg zs ls first (-1) dg j (0 + (n + 1)) hd0 HJ.out (by rw [HL.out.1]; omega)
            have HE := Lib.hid he
            clear he
            go_wp2_with fail
            go_loopw [11] (fun i W => ∃ p : Nat, j ≤ p ∧ p ≤ m ∧ i = .int .i64 (p : Int) ∧ Hid (j + nblg zs (0 + (n + 1)) (ls.drop j) = p + nblg zs (0 + (n + 1)) (ls.drop p) ∧ Below w.heap.size w W)) (fun i _ => m - (intOf i).toNat)
            case atStart => exact ⟨j, by omega, by omega, rfl, rfl, HBQ.out⟩
            case round =>
              obtain ⟨p, hp, hpm, rfl, HP⟩ := hrel
              by_cases hlt2 : p < m
              · have hst2 := nblg_step zs (0 + (n + 1)) ls p (by rw [HL.out.2]; exact hlt2)
                obtain ⟨bL3, offL3, hBLX, hbL3, hcL⟩ := (HRL.out.below HP.out.2).addr (by rw [HL.out.2]; omega)
                first | subst hBLX | (injection hBLX with hBLX; injection hBLX with hq1 hq2; subst hq1 hq2)
                obtain ⟨f0, f1, f2⟩ := hcL p (by rw [HL.out.2]; exact hlt2)
                obtain ⟨v0, v1⟩ := HV.out p (by rw [HL.out.2]; exact hlt2)
                have dp : (p : Int) < (m : Int) := by omega
                obtain ⟨g, hg⟩ : ∃ g, blg zs (0 + (n + 1)) (lnAt ls p) = g := ⟨_, rfl⟩
                rw [hg] at hst2
                have HG := Lib.hid hg
                have HST2 := Lib.hid hst2
                clear hcL hg hst2
                generalize lnAt ls p = x at *
                go_wp2_with fail
                refine (belongs_int b off n c zs x (0 + (n + 1)) _ (by omega) wr HL.out.1 hnc hm (by omega) HB.out (HR.out.below HP.out.2) v0 v1 g HG.out).mono ?_
                rintro e W2 ⟨rfl, hb2⟩
                have HB2 := Lib.hid (below_step HP.out.2 hb2)
                clear hb2 f0 f1 f2
                cases g with
                | true =>
                  go_wp2_with fail
                  go_roundw
                  case rel =>
                    refine ⟨p + 1, by omega, by omega, by go_num, ?_, HB2.out⟩
                    rw [HP.out.1, HST2.out]; simp; omega
                  case measure => simp [intOf]; omega
                | false =>
                  go_wp2_with fail
                  go_ret2
                  refine ⟨?_, HB2.out⟩
                  rw [HE.out, HP.out.1, HST2.out]
                  exact ret_two (by first | rfl | (simp only []; omega)) (by simp)
              · obtain rfl : p = m := by omega
                have dp : decide (p < p) = false := decide_eq_false (by omega)
                go_wp2_with fail
                go_ret2
                refine ⟨?_, HP.out.2⟩
                first | rw [HE.out, HP.out.1, List.drop_eq_nil_of_le (by rw [HL.out.2]; omega)] | rw [HE.out, List.drop_eq_nil_of_le (by rw [HL.out.2]; omega)]
                exact ret_two (by first | rfl | (simp only []; omega)) (by simp [nblg])
        · have HDG : Hid (dg = 0) := by show dg = 0; omega
          have dd0 : ¬ 0 < dg := hd0
          have dd1 : decide (0 < dg) = false := decide_eq_false hd0
          have deq : ((j : Int) == (m : Int)) = false := beq_eq_false_iff_ne.2 (by omega)
          have deq' : ¬ j = m := by omega
          have deq2 : (j == m) = false := beq_eq_false_iff_ne.2 deq'
          obtain ⟨bL2, offL2, hBL2, hbL2, hcL⟩ := (HRL.out.below HBQ.out).addr (by rw [HL.out.2]; omega)
          injection hBL2 with hBL2
          injection hBL2 with hBL3 hBL4
          subst hBL3 hBL4
          obtain ⟨f0, f1, f2⟩ := hcL j (by rw [HL.out.2]; exact hlt)
          obtain ⟨v0, v1⟩ := HV.out j (by rw [HL.out.2]; exact hlt)
          obtain ⟨iw, hiw⟩ : ∃ iw, indF zs (lnAt ls j) = iw := ⟨_, rfl⟩
          obtain ⟨mk, hmk⟩ : ∃ mk, dmk zs (lnAt ls j) = mk := ⟨_, rfl⟩
          have hol : onlyF zs ls j (-1) = (decide ((iw : Int) ≤ (-1)) || mk) := by
            unfold onlyF; rw [hiw, hmk, HL.out.2, deq2]; rfl
          have HX := Lib.hid (And.intro hiw (And.intro hmk hol))
          have hib := indF_le zs (lnAt ls j) v0
          rw [hiw] at hib
          clear hcL hiw hmk hol
          have hext := fun ho => ext_ind zs ls first (-1) j iw HJ.out HX.out.1 ho
          have hextO := fun ho => ext_only zs ls first (-1) j (0) HJ.out (by rw [HL.out.1]; omega) ho
          rw [← HDG.out] at hext hextO
          have HEX := Lib.hid (And.intro hext hextO)
          clear hext hextO
          generalize lnAt ls j = x at *
          have hibn : iw ≤ n := by omega
          go_wp2_with fail
          refine (indent_any b off n c zs x WQ HL.out.1 hnc (by omega) (HR.out.below HBQ.out) v0 v1 iw HX.out.1).mono ?_
          rintro e W3 ⟨rfl, hb3⟩
          obtain ⟨g0, g1, g2⟩ : W3.cell? ⟨bL, offL + j * 3, none⟩ = some (.int .i64 (x.f : Int)) ∧ W3.cell? ⟨bL, offL + j * 3 + 1, none⟩ = some (.int .i64 (x.t : Int)) ∧ W3.cell? ⟨bL, offL + j * 3 + 2, none⟩ = some (.int .i64 (x.n : Int)) := ⟨cell_keep hb3 f0, cell_keep hb3 f1, cell_keep hb3 f2⟩
          have HB3 := Lib.hid (below_step HBQ.out hb3)
          clear hb3 f0 f1 f2
          by_cases hip : (iw : Int) ≤ (-1)
          · have he := HEX.out.2 (by rw [HX.out.2.2, decide_eq_true hip]; rfl)
            have HE := Lib.hid he
            clear he
            have hipI : (iw : Int) ≤ -1 := hip
            exfalso
            omega
          · have hipd : decide ((iw : Int) ≤ (-1)) = false := decide_eq_false hip
            have hx1 : ¬ (iw : Int) ≤ -1 := hip
            go_wp2_with fail
            refine (documentMark_any b off n c zs x W3 HL.out.1 hnc hm (by omega) HB.out (HR.out.below HB3.out) v0 v1 mk HX.out.2.1).mono ?_
            rintro e W4 ⟨rfl, hb4⟩
            obtain ⟨k0, k1, k2⟩ : W4.cell? ⟨bL, offL + j * 3, none⟩ = some (.int .i64 (x.f : Int)) ∧ W4.cell? ⟨bL, offL + j * 3 + 1, none⟩ = some (.int .i64 (x.t : Int)) ∧ W4.cell? ⟨bL, offL + j * 3 + 2, none⟩ = some (.int .i64 (x.n : Int)) := ⟨cell_keep hb4 g0, cell_keep hb4 g1, cell_keep hb4 g2⟩
            have HB4 := Lib.hid (below_step HB3.out hb4)
            clear hb4 g0 g1 g2
            cases mk with
            | true =>
              have he := HEX.out.2 (by rw [HX.out.2.2]; simp)
              have HE := Lib.hid he
              clear he
              go_wp2_with fail
              go_ret2
              refine ⟨?_, HB4.out⟩
              rw [HE.out]
              exact ret_two (by simp only []; omega) rfl
            | false =>
              have he := HEX.out.1 (by rw [HX.out.2.2, hipd]; rfl)
              have HE := Lib.hid he
              clear he
              go_wp2_with fail
              refine (indent_any b off n c zs x W4 HL.out.1 hnc (by omega) (HR.out.below HB4.out) v0 v1 iw HX.out.1).mono ?_
              rintro e W5 ⟨rfl, hb5⟩
              have HBQ := Lib.hid (below_step HB4.out hb5)
              clear hb5 k0 k1 k2 HX HEX
              go_wp2_with fail
              go_loopw [11] (fun i W => ∃ p : Nat, j ≤ p ∧ p ≤ m ∧ i = .int .i64 (p : Int) ∧ Hid (j + nblg zs (iw) (ls.drop j) = p + nblg zs (iw) (ls.drop p) ∧ Below w.heap.size w W)) (fun i _ => m - (intOf i).toNat)
              case atStart => exact ⟨j, by omega, by omega, rfl, rfl, HBQ.out⟩
              case round =>
                obtain ⟨p, hp, hpm, rfl, HP⟩ := hrel
                by_cases hlt2 : p < m
                · have hst2 := nblg_step zs (iw) ls p (by rw [HL.out.2]; exact hlt2)
                  obtain ⟨bL3, offL3, hBLX, hbL3, hcL⟩ := (HRL.out.below HP.out.2).addr (by rw [HL.out.2]; omega)
                  first | subst hBLX | (injection hBLX with hBLX; injection hBLX with hq1 hq2; subst hq1 hq2)
                  obtain ⟨f0, f1, f2⟩ := hcL p (by rw [HL.out.2]; exact hlt2)
                  obtain ⟨v0, v1⟩ := HV.out p (by rw [HL.out.2]; exact hlt2)
                  have dp : (p : Int) < (m : Int) := by omega
                  obtain ⟨g, hg⟩ : ∃ g, blg zs (iw) (lnAt ls p) = g := ⟨_, rfl⟩
                  rw [hg] at hst2
                  have HG := Lib.hid hg
                  have HST2 := Lib.hid hst2
                  clear hcL hg hst2
                  generalize lnAt ls p = x at *
                  go_wp2_with fail
                  refine (belongs_int b off n c zs x (iw) _ (by omega) wr HL.out.1 hnc hm (by omega) HB.out (HR.out.below HP.out.2) v0 v1 g HG.out).mono ?_
                  rintro e W2 ⟨rfl, hb2⟩
                  have HB2 := Lib.hid (below_step HP.out.2 hb2)
                  clear hb2 f0 f1 f2
                  cases g with
                  | true =>
                    go_wp2_with fail
                    go_roundw
                    case rel =>
                      refine ⟨p + 1, by omega, by omega, by go_num, ?_, HB2.out⟩
                      rw [HP.out.1, HST2.out]; simp; omega
                    case measure => simp [intOf]; omega
                  | false =>
                    go_wp2_with fail
                    go_ret2
                    refine ⟨?_, HB2.out⟩
                    rw [HE.out, HP.out.1, HST2.out]
                    exact ret_two (by first | rfl | (simp only []; omega)) (by simp)
                · obtain rfl : p = m := by omega
                  have dp : decide (p < p) = false := decide_eq_false (by omega)
                  go_wp2_with fail
                  go_ret2
                  refine ⟨?_, HP.out.2⟩
                  first | rw [HE.out, HP.out.1, List.drop_eq_nil_of_le (by rw [HL.out.2]; omega)] | rw [HE.out, List.drop_eq_nil_of_le (by rw [HL.out.2]; omega)]
                  exact ret_two (by first | rfl | (simp only []; omega)) (by simp [nblg])
    · obtain rfl : j = m := by omega
      have dj : decide (j < j) = false := decide_eq_false (by omega)
      have HJ : Hid (first + nfill zs (ls.drop first) = j) := by
        show _ = _
        rw [HK.out.1, List.drop_eq_nil_of_le (by rw [HL.out.2]; omega)]; rfl
      have HBQ := Lib.hid HK.out.2
      clear HK
      obtain ⟨WQ, hWQ⟩ : ∃ x, x = wr := ⟨_, rfl⟩
      subst hWQ
      by_cases hd0 : 0 < dg
      · have dd0 : (0 : Int) < (dg : Int) := by omega
        by_cases hdn : dg ≤ n + 1
        · have q1 : ¬ (n : Int) + 1 < (dg : Int) := by omega
          have q2 : decide ((n : Int) + 1 < (dg : Int)) = false := decide_eq_false q1
          have he := ext_dg zs ls first (-1) dg j (0 + dg) hd0 HJ.out (by rw [HL.out.1]; omega)
          have HE := Lib.hid he
          clear he
          go_wp2_with fail
          go_loopw [11] (fun i W => ∃ p : Nat, j ≤ p ∧ p ≤ j ∧ i = .int .i64 (p : Int) ∧ Hid (j + nblg zs (0 + dg) (ls.drop j) = p + nblg zs (0 + dg) (ls.drop p) ∧ Below w.heap.size w W)) (fun i _ => j - (intOf i).toNat)
          case atStart => exact ⟨j, by omega, by omega, rfl, rfl, HBQ.out⟩
          case round =>
            obtain ⟨p, hp, hpm, rfl, HP⟩ := hrel
            by_cases hlt2 : p < j
            · have hst2 := nblg_step zs (0 + dg) ls p (by rw [HL.out.2]; exact hlt2)
              obtain ⟨bL3, offL3, hBLX, hbL3, hcL⟩ := (HRL.out.below HP.out.2).addr (by rw [HL.out.2]; omega)
              first | subst hBLX | (injection hBLX with hBLX; injection hBLX with hq1 hq2; subst hq1 hq2)
              obtain ⟨f0, f1, f2⟩ := hcL p (by rw [HL.out.2]; exact hlt2)
              obtain ⟨v0, v1⟩ := HV.out p (by rw [HL.out.2]; exact hlt2)
              have dp : (p : Int) < (j : Int) := by omega
              obtain ⟨g, hg⟩ : ∃ g, blg zs (0 + dg) (lnAt ls p) = g := ⟨_, rfl⟩
              rw [hg] at hst2
              have HG := Lib.hid hg
              have HST2 := Lib.hid hst2
              clear hcL hg hst2
              generalize lnAt ls p = x at *
              go_wp2_with fail
              refine (belongs_int b off n c zs x (0 + dg) _ (by omega) wr HL.out.1 hnc hm (by omega) HB.out (HR.out.below HP.out.2) v0 v1 g HG.out).mono ?_
              rintro e W2 ⟨rfl, hb2⟩
              have HB2 := Lib.hid (below_step HP.out.2 hb2)
              clear hb2 f0 f1 f2
              cases g with
              | true =>
                go_wp2_with fail
                go_roundw
                case rel =>
                  refine ⟨p + 1, by omega, by omega, by go_num, ?_, HB2.out⟩
                  rw [HP.out.1, HST2.out]; simp; omega
                case measure => simp [intOf]; omega
              | false =>
                go_wp2_with fail
                go_ret2
                refine ⟨?_, HB2.out⟩
                rw [HE.out, HP.out.1, HST2.out]
                exact ret_two (by first | rfl | (simp only []; omega)) (by simp)
            · obtain rfl : p = j := by omega
              have dp : decide (p < p) = false := decide_eq_false (by omega)
              go_wp2_with fail
              go_ret2
              refine ⟨?_, HP.out.2⟩
              first | rw [HE.out, HP.out.1, List.drop_eq_nil_of_le (by rw [HL.out.2]; omega)] | rw [HE.out, List.drop_eq_nil_of_le (by rw [HL.out.2]; omega)]
              exact ret_two (by first | rfl | (simp only []; omega)) (by simp [nblg])
        · have q1 : (n : Int) + 1 < (dg : Int) := by omega
          have he := ext_dg zs ls first (-1) dg j (0 + (n + 1)) hd0 HJ.out (by rw [HL.out.1]; omega)
          have HE := Lib.hid he
          clear he
          go_wp2_with fail
          go_loopw [11] (fun i W => ∃ p : Nat, j ≤ p ∧ p ≤ j ∧ i = .int .i64 (p : Int) ∧ Hid (j + nblg zs (0 + (n + 1)) (ls.drop j) = p + nblg zs (0 + (n + 1)) (ls.drop p) ∧ Below w.heap.size w W)) (fun i _ => j - (intOf i).toNat)
          case atStart => exact ⟨j, by omega, by omega, rfl, rfl, HBQ.out⟩
          case round =>
            obtain ⟨p, hp, hpm, rfl, HP⟩ := hrel
            by_cases hlt2 : p < j
            · have hst2 := nblg_step zs (0 + (n + 1)) ls p (by rw [HL.out.2]; exact hlt2)
              obtain ⟨bL3, offL3, hBLX, hbL3, hcL⟩ := (HRL.out.below HP.out.2).addr (by rw [HL.out.2]; omega)
              first | subst hBLX | (injection hBLX with hBLX; injection hBLX with hq1 hq2; subst hq1 hq2)
              obtain ⟨f0, f1, f2⟩ := hcL p (by rw [HL.out.2]; exact hlt2)
              obtain ⟨v0, v1⟩ := HV.out p (by rw [HL.out.2]; exact hlt2)
              have dp : (p : Int) < (j : Int) := by omega
              obtain ⟨g, hg⟩ : ∃ g, blg zs (0 + (n + 1)) (lnAt ls p) = g := ⟨_, rfl⟩
              rw [hg] at hst2
              have HG := Lib.hid hg
              have HST2 := Lib.hid hst2
              clear hcL hg hst2
              generalize lnAt ls p = x at *
              go_wp2_with fail
              refine (belongs_int b off n c zs x (0 + (n + 1)) _ (by omega) wr HL.out.1 hnc hm (by omega) HB.out (HR.out.below HP.out.2) v0 v1 g HG.out).mono ?_
              rintro e W2 ⟨rfl, hb2⟩
              have HB2 := Lib.hid (below_step HP.out.2 hb2)
              clear hb2 f0 f1 f2
              cases g with
              | true =>
                go_wp2_with fail
                go_roundw
                case rel =>
                  refine ⟨p + 1, by omega, by omega, by go_num, ?_, HB2.out⟩
                  rw [HP.out.1, HST2.out]; simp; omega
                case measure => simp [intOf]; omega
              | false =>
                go_wp2_with fail
                go_ret2
                refine ⟨?_, HB2.out⟩
                rw [HE.out, HP.out.1, HST2.out]
                exact ret_two (by first | rfl | (simp only []; omega)) (by simp)
            · obtain rfl : p = j := by omega
              have dp : decide (p < p) = false := decide_eq_false (by omega)
              go_wp2_with fail
              go_ret2
              refine ⟨?_, HP.out.2⟩
              first | rw [HE.out, HP.out.1, List.drop_eq_nil_of_le (by rw [HL.out.2]; omega)] | rw [HE.out, List.drop_eq_nil_of_le (by rw [HL.out.2]; omega)]
              exact ret_two (by first | rfl | (simp only []; omega)) (by simp [nblg])
      · have HDG : Hid (dg = 0) := by show dg = 0; omega
        have dd0 : ¬ 0 < dg := hd0
        have dd1 : decide (0 < dg) = false := decide_eq_false hd0
        have he := ext_only zs ls first (-1) j (0) HJ.out (by rw [HL.out.1]; omega) (by unfold onlyF; rw [HL.out.2]; simp)
        rw [← HDG.out] at he
        have HE := Lib.hid he
        clear he
        have deq : ((j : Int) == (j : Int)) = true := by simp
        go_wp2_with fail
        go_ret2
        refine ⟨?_, HBQ.out⟩
        rw [HE.out]
        exact ret_two (by simp only []; omega) rfl


set_option maxHeartbeats 8000000 in
set_option maxRecDepth 100000 in
theorem extent_low (b off : Nat) (n c : Nat) (zs : List Int) (B : Option Addr) (m d : Nat) (ls : List Ln) (first : Nat) (P : Nat) (dg : Nat) (w : World) (hl : zs.length = n) (hnc : n ≤ c) (hm : c ≤ 9223372036854775807) (hn : n ≤ 100000) (hb : Byte zs) (hr : RdB w (some ⟨b, off, none⟩) zs)
    (hls : ls.length = m) (hmd : m ≤ d) (hm1 : m ≤ 100000) (hrl : RdL w B ls) (hv : Lies n ls) (hf : first ≤ m) (hp2 : P ≤ 100000) (hdg : dg ≤ 100000) (hP : P ≤ n + 1) :
    Calls Try.prog 33 #[.slice (some ⟨b, off, none⟩) n c, .slice B m d, .int .i64 (first : Int), .int .i64 (P : Int), .int .i64 (dg : Int)] w fun e w' => e = .returned (.tuple #[.int .i64 ((extF zs ls first (P : Int) dg).1 : Int), .int .i64 ((extF zs ls first (P : Int) dg).2 : Int)]) ∧ Below w.heap.size w w' := by
  have HR := Lib.hid hr
  have HB := Lib.hid hb
  have HL := Lib.hid (And.intro hl hls)
  have HRL := Lib.hid hrl
  have HV := Lib.hid hv
  clear hr hb hl hls hrl hv
  have q3 : ¬ (n : Int) + 1 < (P : Int) := by omega
  have q4 : decide ((n : Int) + 1 < (P : Int)) = false := decide_eq_false q3
  have q5 : ¬ (P : Int) < 0 := by omega
  go_enter Try.func33, Try.ntmps33
  go_wp2_with fail
  go_loopw [14] (fun i W => ∃ j : Nat, first ≤ j ∧ j ≤ m ∧ i = .int .i64 (j : Int) ∧ Hid (first + nfill zs (ls.drop first) = j + nfill zs (ls.drop j) ∧ Below w.heap.size w W)) (fun i _ => m - (intOf i).toNat)
  case atStart => exact ⟨first, by omega, by omega, rfl, rfl, Below.refl _ _⟩
  case round =>
    obtain ⟨j, hj, hjm, rfl, HK⟩ := hrel
    by_cases hlt : j < m
    · have hst := nfill_step zs ls j (by rw [HL.out.2]; exact hlt)
      have dj : (j : Int) < (m : Int) := by omega
      obtain ⟨g, hg⟩ : ∃ g, blkF zs (lnAt ls j) = g := ⟨_, rfl⟩
      rw [hg] at hst
      have HG := Lib.hid hg
      have HST := Lib.hid hst
      clear hg hst
      obtain ⟨bL, offL, hBL, hbL, hcL⟩ := (HRL.out.below HK.out.2).addr (by rw [HL.out.2]; omega)
      obtain ⟨f0, f1, f2⟩ := hcL j (by rw [HL.out.2]; exact hlt)
      obtain ⟨v0, v1⟩ := HV.out j (by rw [HL.out.2]; exact hlt)
      have HBL := Lib.hid hBL
      clear hcL hBL
      obtain ⟨x, hx⟩ : ∃ x, lnAt ls j = x := ⟨_, rfl⟩
      rw [hx] at f0 f1 f2 v0 v1 HG
      have hBL := HBL.out
      clear hx HBL
      subst hBL
      go_wp2_with fail
      refine (blank_any b off n c zs x wr HL.out.1 hnc (by omega) (HR.out.below HK.out.2) v0 v1 g HG.out).mono ?_
      rintro e WQ ⟨rfl, hbq⟩
      have HBQ := Lib.hid (below_step HK.out.2 hbq)
      clear hbq f0 f1 f2 v0 v1 HG
      cases g with
      | true =>
        go_wp2_with fail
        go_roundw
        case rel =>
          refine ⟨j + 1, by omega, by omega, by go_num, ?_, HBQ.out⟩
          rw [HK.out.1, HST.out]; simp; omega
        case measure => simp [intOf]; omega
      | false =>
        have HJ : Hid (first + nfill zs (ls.drop first) = j) := by
          show _ = _
          rw [HK.out.1, HST.out]; simp
        clear HK HST
        by_cases hd0 : 0 < dg
        · have dd0 : (0 : Int) < (dg : Int) := by omega
          by_cases hdn : dg ≤ n + 1
          · have q1 : ¬ (n : Int) + 1 < (dg : Int) := by omega
            have q2 : decide ((n : Int) + 1 < (dg : Int)) = false := decide_eq_false q1
            have he := ext_dg zs ls first (P : Int) dg j (P + dg) hd0 HJ.out (by rw [HL.out.1]; omega)
            have HE := Lib.hid he
            clear he
            go_wp2_with fail
            go_loopw [11] (fun i W => ∃ p : Nat, j ≤ p ∧ p ≤ m ∧ i = .int .i64 (p : Int) ∧ Hid (j + nblg zs (P + dg) (ls.drop j) = p + nblg zs (P + dg) (ls.drop p) ∧ Below w.heap.size w W)) (fun i _ => m - (intOf i).toNat)
            case atStart => exact ⟨j, by omega, by omega, rfl, rfl, HBQ.out⟩
            case round =>
              obtain ⟨p, hp, hpm, rfl, HP⟩ := hrel
              by_cases hlt2 : p < m
              · have hst2 := nblg_step zs (P + dg) ls p (by rw [HL.out.2]; exact hlt2)
                obtain ⟨bL3, offL3, hBLX, hbL3, hcL⟩ := (HRL.out.below HP.out.2).addr (by rw [HL.out.2]; omega)
                first | subst hBLX | (injection hBLX with hBLX; injection hBLX with hq1 hq2; subst hq1 hq2)
                obtain ⟨f0, f1, f2⟩ := hcL p (by rw [HL.out.2]; exact hlt2)
                obtain ⟨v0, v1⟩ := HV.out p (by rw [HL.out.2]; exact hlt2)
                have dp : (p : Int) < (m : Int) := by omega
                obtain ⟨g, hg⟩ : ∃ g, blg zs (P + dg) (lnAt ls p) = g := ⟨_, rfl⟩
                rw [hg] at hst2
                have HG := Lib.hid hg
                have HST2 := Lib.hid hst2
                clear hcL hg hst2
                generalize lnAt ls p = x at *
                go_wp2_with fail
                refine (belongs_int b off n c zs x (P + dg) _ (by omega) wr HL.out.1 hnc hm (by omega) HB.out (HR.out.below HP.out.2) v0 v1 g HG.out).mono ?_
                rintro e W2 ⟨rfl, hb2⟩
                have HB2 := Lib.hid (below_step HP.out.2 hb2)
                clear hb2 f0 f1 f2
                cases g with
                | true =>
                  go_wp2_with fail
                  go_roundw
                  case rel =>
                    refine ⟨p + 1, by omega, by omega, by go_num, ?_, HB2.out⟩
                    rw [HP.out.1, HST2.out]; simp; omega
                  case measure => simp [intOf]; omega
                | false =>
                  go_wp2_with fail
                  go_ret2
                  refine ⟨?_, HB2.out⟩
                  rw [HE.out, HP.out.1, HST2.out]
                  exact ret_two (by first | rfl | (simp only []; omega)) (by simp)
              · obtain rfl : p = m := by omega
                have dp : decide (p < p) = false := decide_eq_false (by omega)
                go_wp2_with fail
                go_ret2
                refine ⟨?_, HP.out.2⟩
                first | rw [HE.out, HP.out.1, List.drop_eq_nil_of_le (by rw [HL.out.2]; omega)] | rw [HE.out, List.drop_eq_nil_of_le (by rw [HL.out.2]; omega)]
                exact ret_two (by first | rfl | (simp only []; omega)) (by simp [nblg])
          · have q1 : (n : Int) + 1 < (dg : Int) := by omega
            have he := ext_dg zs ls first (P : Int) dg j (P + (n + 1)) hd0 HJ.out (by rw [HL.out.1]; omega)
            have HE := Lib.hid he
            clear he
            go_wp2_with fail
            go_loopw [11] (fun i W => ∃ p : Nat, j ≤ p ∧ p ≤ m ∧ i = .int .i64 (p : Int) ∧ Hid (j + nblg zs (P + (n + 1)) (ls.drop j) = p + nblg zs (P + (n + 1)) (ls.drop p) ∧ Below w.heap.size w W)) (fun i _ => m - (intOf i).toNat)
            case atStart => exact ⟨j, by omega, by omega, rfl, rfl, HBQ.out⟩
            case round =>
              obtain ⟨p, hp, hpm, rfl, HP⟩ := hrel
              by_cases hlt2 : p < m
              · have hst2 := nblg_step zs (P + (n + 1)) ls p (by rw [HL.out.2]; exact hlt2)
                obtain ⟨bL3, offL3, hBLX, hbL3, hcL⟩ := (HRL.out.below HP.out.2).addr (by rw [HL.out.2]; omega)
                first | subst hBLX | (injection hBLX with hBLX; injection hBLX with hq1 hq2; subst hq1 hq2)
                obtain ⟨f0, f1, f2⟩ := hcL p (by rw [HL.out.2]; exact hlt2)
                obtain ⟨v0, v1⟩ := HV.out p (by rw [HL.out.2]; exact hlt2)
                have dp : (p : Int) < (m : Int) := by omega
                obtain ⟨g, hg⟩ : ∃ g, blg zs (P + (n + 1)) (lnAt ls p) = g := ⟨_, rfl⟩
                rw [hg] at hst2
                have HG := Lib.hid hg
                have HST2 := Lib.hid hst2
                clear hcL hg hst2
                generalize lnAt ls p = x at *
                go_wp2_with fail
                refine (belongs_int b off n c zs x (P + (n + 1)) _ (by omega) wr HL.out.1 hnc hm (by omega) HB.out (HR.out.below HP.out.2) v0 v1 g HG.out).mono ?_
                rintro e W2 ⟨rfl, hb2⟩
                have HB2 := Lib.hid (below_step HP.out.2 hb2)
                clear hb2 f0 f1 f2
                cases g with
                | true =>
                  go_wp2_with fail
                  go_roundw
                  case rel =>
                    refine ⟨p + 1, by omega, by omega, by go_num, ?_, HB2.out⟩
                    rw [HP.out.1, HST2.out]; simp; omega
                  case measure => simp [intOf]; omega
                | false =>
                  go_wp2_with fail
                  go_ret2
                  refine ⟨?_, HB2.out⟩
                  rw [HE.out, HP.out.1, HST2.out]
                  exact ret_two (by first | rfl | (simp only []; omega)) (by simp)
              · obtain rfl : p = m := by omega
                have dp : decide (p < p) = false := decide_eq_false (by omega)
                go_wp2_with fail
                go_ret2
                refine ⟨?_, HP.out.2⟩
                first | rw [HE.out, HP.out.1, List.drop_eq_nil_of_le (by rw [HL.out.2]; omega)] | rw [HE.out, List.drop_eq_nil_of_le (by rw [HL.out.2]; omega)]
                exact ret_two (by first | rfl | (simp only []; omega)) (by simp [nblg])
        · have HDG : Hid (dg = 0) := by show dg = 0; omega
          have dd0 : ¬ 0 < dg := hd0
          have dd1 : decide (0 < dg) = false := decide_eq_false hd0
          have deq : ((j : Int) == (m : Int)) = false := beq_eq_false_iff_ne.2 (by omega)
          have deq' : ¬ j = m := by omega
          have deq2 : (j == m) = false := beq_eq_false_iff_ne.2 deq'
          obtain ⟨bL2, offL2, hBL2, hbL2, hcL⟩ := (HRL.out.below HBQ.out).addr (by rw [HL.out.2]; omega)
          injection hBL2 with hBL2
          injection hBL2 with hBL3 hBL4
          subst hBL3 hBL4
          obtain ⟨f0, f1, f2⟩ := hcL j (by rw [HL.out.2]; exact hlt)
          obtain ⟨v0, v1⟩ := HV.out j (by rw [HL.out.2]; exact hlt)
          obtain ⟨iw, hiw⟩ : ∃ iw, indF zs (lnAt ls j) = iw := ⟨_, rfl⟩
          obtain ⟨mk, hmk⟩ : ∃ mk, dmk zs (lnAt ls j) = mk := ⟨_, rfl⟩
          have hol : onlyF zs ls j (P : Int) = (decide ((iw : Int) ≤ (P : Int)) || mk) := by
            unfold onlyF; rw [hiw, hmk, HL.out.2, deq2]; rfl
          have HX := Lib.hid (And.intro hiw (And.intro hmk hol))
          have hib := indF_le zs (lnAt ls j) v0
          rw [hiw] at hib
          clear hcL hiw hmk hol
          have hext := fun ho => ext_ind zs ls first (P : Int) j iw HJ.out HX.out.1 ho
          have hextO := fun ho => ext_only zs ls first (P : Int) j (P) HJ.out (by rw [HL.out.1]; omega) ho
          rw [← HDG.out] at hext hextO
          have HEX := Lib.hid (And.intro hext hextO)
          clear hext hextO
          generalize lnAt ls j = x at *
          have hibn : iw ≤ n := by omega
          go_wp2_with fail
          refine (indent_any b off n c zs x WQ HL.out.1 hnc (by omega) (HR.out.below HBQ.out) v0 v1 iw HX.out.1).mono ?_
          rintro e W3 ⟨rfl, hb3⟩
          obtain ⟨g0, g1, g2⟩ : W3.cell? ⟨bL, offL + j * 3, none⟩ = some (.int .i64 (x.f : Int)) ∧ W3.cell? ⟨bL, offL + j * 3 + 1, none⟩ = some (.int .i64 (x.t : Int)) ∧ W3.cell? ⟨bL, offL + j * 3 + 2, none⟩ = some (.int .i64 (x.n : Int)) := ⟨cell_keep hb3 f0, cell_keep hb3 f1, cell_keep hb3 f2⟩
          have HB3 := Lib.hid (below_step HBQ.out hb3)
          clear hb3 f0 f1 f2
          by_cases hip : (iw : Int) ≤ (P : Int)
          · have he := HEX.out.2 (by rw [HX.out.2.2, decide_eq_true hip]; rfl)
            have HE := Lib.hid he
            clear he
            have hipI : (iw : Int) ≤ (P : Int) := hip
            have hipN : iw ≤ P := by omega
            go_wp2_with fail
            go_ret2
            refine ⟨?_, HB3.out⟩
            rw [HE.out]
            exact ret_two (by simp only []; omega) rfl
          · have hipd : decide ((iw : Int) ≤ (P : Int)) = false := decide_eq_false hip
            have hx1 : ¬ iw ≤ P := by omega
            have hx2 : decide (iw ≤ P) = false := decide_eq_false hx1
            go_wp2_with fail
            refine (documentMark_any b off n c zs x W3 HL.out.1 hnc hm (by omega) HB.out (HR.out.below HB3.out) v0 v1 mk HX.out.2.1).mono ?_
            rintro e W4 ⟨rfl, hb4⟩
            obtain ⟨k0, k1, k2⟩ : W4.cell? ⟨bL, offL + j * 3, none⟩ = some (.int .i64 (x.f : Int)) ∧ W4.cell? ⟨bL, offL + j * 3 + 1, none⟩ = some (.int .i64 (x.t : Int)) ∧ W4.cell? ⟨bL, offL + j * 3 + 2, none⟩ = some (.int .i64 (x.n : Int)) := ⟨cell_keep hb4 g0, cell_keep hb4 g1, cell_keep hb4 g2⟩
            have HB4 := Lib.hid (below_step HB3.out hb4)
            clear hb4 g0 g1 g2
            cases mk with
            | true =>
              have he := HEX.out.2 (by rw [HX.out.2.2]; simp)
              have HE := Lib.hid he
              clear he
              go_wp2_with fail
              go_ret2
              refine ⟨?_, HB4.out⟩
              rw [HE.out]
              exact ret_two (by simp only []; omega) rfl
            | false =>
              have he := HEX.out.1 (by rw [HX.out.2.2, hipd]; rfl)
              have HE := Lib.hid he
              clear he
              go_wp2_with fail
              refine (indent_any b off n c zs x W4 HL.out.1 hnc (by omega) (HR.out.below HB4.out) v0 v1 iw HX.out.1).mono ?_
              rintro e W5 ⟨rfl, hb5⟩
              have HBQ := Lib.hid (below_step HB4.out hb5)
              clear hb5 k0 k1 k2 HX HEX
              go_wp2_with fail
              go_loopw [11] (fun i W => ∃ p : Nat, j ≤ p ∧ p ≤ m ∧ i = .int .i64 (p : Int) ∧ Hid (j + nblg zs (iw) (ls.drop j) = p + nblg zs (iw) (ls.drop p) ∧ Below w.heap.size w W)) (fun i _ => m - (intOf i).toNat)
              case atStart => exact ⟨j, by omega, by omega, rfl, rfl, HBQ.out⟩
              case round =>
                obtain ⟨p, hp, hpm, rfl, HP⟩ := hrel
                by_cases hlt2 : p < m
                · have hst2 := nblg_step zs (iw) ls p (by rw [HL.out.2]; exact hlt2)
                  obtain ⟨bL3, offL3, hBLX, hbL3, hcL⟩ := (HRL.out.below HP.out.2).addr (by rw [HL.out.2]; omega)
                  first | subst hBLX | (injection hBLX with hBLX; injection hBLX with hq1 hq2; subst hq1 hq2)
                  obtain ⟨f0, f1, f2⟩ := hcL p (by rw [HL.out.2]; exact hlt2)
                  obtain ⟨v0, v1⟩ := HV.out p (by rw [HL.out.2]; exact hlt2)
                  have dp : (p : Int) < (m : Int) := by omega
                  obtain ⟨g, hg⟩ : ∃ g, blg zs (iw) (lnAt ls p) = g := ⟨_, rfl⟩
                  rw [hg] at hst2
                  have HG := Lib.hid hg
                  have HST2 := Lib.hid hst2
                  clear hcL hg hst2
                  generalize lnAt ls p = x at *
                  go_wp2_with fail
                  refine (belongs_int b off n c zs x (iw) _ (by omega) wr HL.out.1 hnc hm (by omega) HB.out (HR.out.below HP.out.2) v0 v1 g HG.out).mono ?_
                  rintro e W2 ⟨rfl, hb2⟩
                  have HB2 := Lib.hid (below_step HP.out.2 hb2)
                  clear hb2 f0 f1 f2
                  cases g with
                  | true =>
                    go_wp2_with fail
                    go_roundw
                    case rel =>
                      refine ⟨p + 1, by omega, by omega, by go_num, ?_, HB2.out⟩
                      rw [HP.out.1, HST2.out]; simp; omega
                    case measure => simp [intOf]; omega
                  | false =>
                    go_wp2_with fail
                    go_ret2
                    refine ⟨?_, HB2.out⟩
                    rw [HE.out, HP.out.1, HST2.out]
                    exact ret_two (by first | rfl | (simp only []; omega)) (by simp)
                · obtain rfl : p = m := by omega
                  have dp : decide (p < p) = false := decide_eq_false (by omega)
                  go_wp2_with fail
                  go_ret2
                  refine ⟨?_, HP.out.2⟩
                  first | rw [HE.out, HP.out.1, List.drop_eq_nil_of_le (by rw [HL.out.2]; omega)] | rw [HE.out, List.drop_eq_nil_of_le (by rw [HL.out.2]; omega)]
                  exact ret_two (by first | rfl | (simp only []; omega)) (by simp [nblg])
    · obtain rfl : j = m := by omega
      have dj : decide (j < j) = false := decide_eq_false (by omega)
      have HJ : Hid (first + nfill zs (ls.drop first) = j) := by
        show _ = _
        rw [HK.out.1, List.drop_eq_nil_of_le (by rw [HL.out.2]; omega)]; rfl
      have HBQ := Lib.hid HK.out.2
      clear HK
      obtain ⟨WQ, hWQ⟩ : ∃ x, x = wr := ⟨_, rfl⟩
      subst hWQ
      by_cases hd0 : 0 < dg
      · have dd0 : (0 : Int) < (dg : Int) := by omega
        by_cases hdn : dg ≤ n + 1
        · have q1 : ¬ (n : Int) + 1 < (dg : Int) := by omega
          have q2 : decide ((n : Int) + 1 < (dg : Int)) = false := decide_eq_false q1
          have he := ext_dg zs ls first (P : Int) dg j (P + dg) hd0 HJ.out (by rw [HL.out.1]; omega)
          have HE := Lib.hid he
          clear he
          go_wp2_with fail
          go_loopw [11] (fun i W => ∃ p : Nat, j ≤ p ∧ p ≤ j ∧ i = .int .i64 (p : Int) ∧ Hid (j + nblg zs (P + dg) (ls.drop j) = p + nblg zs (P + dg) (ls.drop p) ∧ Below w.heap.size w W)) (fun i _ => j - (intOf i).toNat)
          case atStart => exact ⟨j, by omega, by omega, rfl, rfl, HBQ.out⟩
          case round =>
            obtain ⟨p, hp, hpm, rfl, HP⟩ := hrel
            by_cases hlt2 : p < j
            · have hst2 := nblg_step zs (P + dg) ls p (by rw [HL.out.2]; exact hlt2)
              obtain ⟨bL3, offL3, hBLX, hbL3, hcL⟩ := (HRL.out.below HP.out.2).addr (by rw [HL.out.2]; omega)
              first | subst hBLX | (injection hBLX with hBLX; injection hBLX with hq1 hq2; subst hq1 hq2)
              obtain ⟨f0, f1, f2⟩ := hcL p (by rw [HL.out.2]; exact hlt2)
              obtain ⟨v0, v1⟩ := HV.out p (by rw [HL.out.2]; exact hlt2)
              have dp : (p : Int) < (j : Int) := by omega
              obtain ⟨g, hg⟩ : ∃ g, blg zs (P + dg) (lnAt ls p) = g := ⟨_, rfl⟩
              rw [hg] at hst2
              have HG := Lib.hid hg
              have HST2 := Lib.hid hst2
              clear hcL hg hst2
              generalize lnAt ls p = x at *
              go_wp2_with fail
              refine (belongs_int b off n c zs x (P + dg) _ (by omega) wr HL.out.1 hnc hm (by omega) HB.out (HR.out.below HP.out.2) v0 v1 g HG.out).mono ?_
              rintro e W2 ⟨rfl, hb2⟩
              have HB2 := Lib.hid (below_step HP.out.2 hb2)
              clear hb2 f0 f1 f2
              cases g with
              | true =>
                go_wp2_with fail
                go_roundw
                case rel =>
                  refine ⟨p + 1, by omega, by omega, by go_num, ?_, HB2.out⟩
                  rw [HP.out.1, HST2.out]; simp; omega
                case measure => simp [intOf]; omega
              | false =>
                go_wp2_with fail
                go_ret2
                refine ⟨?_, HB2.out⟩
                rw [HE.out, HP.out.1, HST2.out]
                exact ret_two (by first | rfl | (simp only []; omega)) (by simp)
            · obtain rfl : p = j := by omega
              have dp : decide (p < p) = false := decide_eq_false (by omega)
              go_wp2_with fail
              go_ret2
              refine ⟨?_, HP.out.2⟩
              first | rw [HE.out, HP.out.1, List.drop_eq_nil_of_le (by rw [HL.out.2]; omega)] | rw [HE.out, List.drop_eq_nil_of_le (by rw [HL.out.2]; omega)]
              exact ret_two (by first | rfl | (simp only []; omega)) (by simp [nblg])
        · have q1 : (n : Int) + 1 < (dg : Int) := by omega
          have he := ext_dg zs ls first (P : Int) dg j (P + (n + 1)) hd0 HJ.out (by rw [HL.out.1]; omega)
          have HE := Lib.hid he
          clear he
          go_wp2_with fail
          go_loopw [11] (fun i W => ∃ p : Nat, j ≤ p ∧ p ≤ j ∧ i = .int .i64 (p : Int) ∧ Hid (j + nblg zs (P + (n + 1)) (ls.drop j) = p + nblg zs (P + (n + 1)) (ls.drop p) ∧ Below w.heap.size w W)) (fun i _ => j - (intOf i).toNat)
          case atStart => exact ⟨j, by omega, by omega, rfl, rfl, HBQ.out⟩
          case round =>
            obtain ⟨p, hp, hpm, rfl, HP⟩ := hrel
            by_cases hlt2 : p < j
            · have hst2 := nblg_step zs (P + (n + 1)) ls p (by rw [HL.out.2]; exact hlt2)
              obtain ⟨bL3, offL3, hBLX, hbL3, hcL⟩ := (HRL.out.below HP.out.2).addr (by rw [HL.out.2]; omega)
              first | subst hBLX | (injection hBLX with hBLX; injection hBLX with hq1 hq2; subst hq1 hq2)
              obtain ⟨f0, f1, f2⟩ := hcL p (by rw [HL.out.2]; exact hlt2)
              obtain ⟨v0, v1⟩ := HV.out p (by rw [HL.out.2]; exact hlt2)
              have dp : (p : Int) < (j : Int) := by omega
              obtain ⟨g, hg⟩ : ∃ g, blg zs (P + (n + 1)) (lnAt ls p) = g := ⟨_, rfl⟩
              rw [hg] at hst2
              have HG := Lib.hid hg
              have HST2 := Lib.hid hst2
              clear hcL hg hst2
              generalize lnAt ls p = x at *
              go_wp2_with fail
              refine (belongs_int b off n c zs x (P + (n + 1)) _ (by omega) wr HL.out.1 hnc hm (by omega) HB.out (HR.out.below HP.out.2) v0 v1 g HG.out).mono ?_
              rintro e W2 ⟨rfl, hb2⟩
              have HB2 := Lib.hid (below_step HP.out.2 hb2)
              clear hb2 f0 f1 f2
              cases g with
              | true =>
                go_wp2_with fail
                go_roundw
                case rel =>
                  refine ⟨p + 1, by omega, by omega, by go_num, ?_, HB2.out⟩
                  rw [HP.out.1, HST2.out]; simp; omega
                case measure => simp [intOf]; omega
              | false =>
                go_wp2_with fail
                go_ret2
                refine ⟨?_, HB2.out⟩
                rw [HE.out, HP.out.1, HST2.out]
                exact ret_two (by first | rfl | (simp only []; omega)) (by simp)
            · obtain rfl : p = j := by omega
              have dp : decide (p < p) = false := decide_eq_false (by omega)
              go_wp2_with fail
              go_ret2
              refine ⟨?_, HP.out.2⟩
              first | rw [HE.out, HP.out.1, List.drop_eq_nil_of_le (by rw [HL.out.2]; omega)] | rw [HE.out, List.drop_eq_nil_of_le (by rw [HL.out.2]; omega)]
              exact ret_two (by first | rfl | (simp only []; omega)) (by simp [nblg])
      · have HDG : Hid (dg = 0) := by show dg = 0; omega
        have dd0 : ¬ 0 < dg := hd0
        have dd1 : decide (0 < dg) = false := decide_eq_false hd0
        have he := ext_only zs ls first (P : Int) j (P) HJ.out (by rw [HL.out.1]; omega) (by unfold onlyF; rw [HL.out.2]; simp)
        rw [← HDG.out] at he
        have HE := Lib.hid he
        clear he
        have deq : ((j : Int) == (j : Int)) = true := by simp
        go_wp2_with fail
        go_ret2
        refine ⟨?_, HBQ.out⟩
        rw [HE.out]
        exact ret_two (by simp only []; omega) rfl


set_option maxHeartbeats 8000000 in
set_option maxRecDepth 100000 in
theorem extent_far (b off : Nat) (n c : Nat) (zs : List Int) (B : Option Addr) (m d : Nat) (ls : List Ln) (first : Nat) (P : Nat) (dg : Nat) (w : World) (hl : zs.length = n) (hnc : n ≤ c) (hm : c ≤ 9223372036854775807) (hn : n ≤ 100000) (hb : Byte zs) (hr : RdB w (some ⟨b, off, none⟩) zs)
    (hls : ls.length = m) (hmd : m ≤ d) (hm1 : m ≤ 100000) (hrl : RdL w B ls) (hv : Lies n ls) (hf : first ≤ m) (hp2 : P ≤ 100000) (hdg : dg ≤ 100000) (hP : n + 1 < P) :
    Calls Try.prog 33 #[.slice (some ⟨b, off, none⟩) n c, .slice B m d, .int .i64 (first : Int), .int .i64 (P : Int), .int .i64 (dg : Int)] w fun e w' => e = .returned (.tuple #[.int .i64 ((extF zs ls first (P : Int) dg).1 : Int), .int .i64 ((extF zs ls first (P : Int) dg).2 : Int)]) ∧ Below w.heap.size w w' := by
  have HR := Lib.hid hr
  have HB := Lib.hid hb
  have HL := Lib.hid (And.intro hl hls)
  have HRL := Lib.hid hrl
  have HV := Lib.hid hv
  clear hr hb hl hls hrl hv
  have q3 : (n : Int) + 1 < (P : Int) := by omega
  have q5 : ¬ (P : Int) < 0 := by omega
  go_enter Try.func33, Try.ntmps33
  go_wp2_with fail
  go_loopw [14] (fun i W => ∃ j : Nat, first ≤ j ∧ j ≤ m ∧ i = .int .i64 (j : Int) ∧ Hid (first + nfill zs (ls.drop first) = j + nfill zs (ls.drop j) ∧ Below w.heap.size w W)) (fun i _ => m - (intOf i).toNat)
  case atStart => exact ⟨first, by omega, by omega, rfl, rfl, Below.refl _ _⟩
  case round =>
    obtain ⟨j, hj, hjm, rfl, HK⟩ := hrel
    by_cases hlt : j < m
    · have hst := nfill_step zs ls j (by rw [HL.out.2]; exact hlt)
      have dj : (j : Int) < (m : Int) := by omega
      obtain ⟨g, hg⟩ : ∃ g, blkF zs (lnAt ls j) = g := ⟨_, rfl⟩
      rw [hg] at hst
      have HG := Lib.hid hg
      have HST := Lib.hid hst
      clear hg hst
      obtain ⟨bL, offL, hBL, hbL, hcL⟩ := (HRL.out.below HK.out.2).addr (by rw [HL.out.2]; omega)
      obtain ⟨f0, f1, f2⟩ := hcL j (by rw [HL.out.2]; exact hlt)
      obtain ⟨v0, v1⟩ := HV.out j (by rw [HL.out.2]; exact hlt)
      have HBL := Lib.hid hBL
      clear hcL hBL
      obtain ⟨x, hx⟩ : ∃ x, lnAt ls j = x := ⟨_, rfl⟩
      rw [hx] at f0 f1 f2 v0 v1 HG
      have hBL := HBL.out
      clear hx HBL
      subst hBL
      go_wp2_with fail
      refine (blank_any b off n c zs x wr HL.out.1 hnc (by omega) (HR.out.below HK.out.2) v0 v1 g HG.out).mono ?_
      rintro e WQ ⟨rfl, hbq⟩
      have HBQ := Lib.hid (below_step HK.out.2 hbq)
      clear hbq f0 f1 f2 v0 v1 HG
      cases g with
      | true =>
        go_wp2_with fail
        go_roundw
        case rel =>
          refine ⟨j + 1, by omega, by omega, by go_num, ?_, HBQ.out⟩
          rw [HK.out.1, HST.out]; simp; omega
        case measure => simp [intOf]; omega
      | false =>
        have HJ : Hid (first + nfill zs (ls.drop first) = j) := by
          show _ = _
          rw [HK.out.1, HST.out]; simp
        clear HK HST
        by_cases hd0 : 0 < dg
        · have dd0 : (0 : Int) < (dg : Int) := by omega
          by_cases hdn : dg ≤ n + 1
          · have q1 : ¬ (n : Int) + 1 < (dg : Int) := by omega
            have q2 : decide ((n : Int) + 1 < (dg : Int)) = false := decide_eq_false q1
            have he := ext_dg zs ls first (P : Int) dg j ((n + 1) + dg) hd0 HJ.out (by rw [HL.out.1]; omega)
            have HE := Lib.hid he
            clear he
            go_wp2_with fail
            go_loopw [11] (fun i W => ∃ p : Nat, j ≤ p ∧ p ≤ m ∧ i = .int .i64 (p : Int) ∧ Hid (j + nblg zs ((n + 1) + dg) (ls.drop j) = p + nblg zs ((n + 1) + dg) (ls.drop p) ∧ Below w.heap.size w W)) (fun i _ => m - (intOf i).toNat)
            case atStart => exact ⟨j, by omega, by omega, rfl, rfl, HBQ.out⟩
            case round =>
              obtain ⟨p, hp, hpm, rfl, HP⟩ := hrel
              by_cases hlt2 : p < m
              · have hst2 := nblg_step zs ((n + 1) + dg) ls p (by rw [HL.out.2]; exact hlt2)
                obtain ⟨bL3, offL3, hBLX, hbL3, hcL⟩ := (HRL.out.below HP.out.2).addr (by rw [HL.out.2]; omega)
                first | subst hBLX | (injection hBLX with hBLX; injection hBLX with hq1 hq2; subst hq1 hq2)
                obtain ⟨f0, f1, f2⟩ := hcL p (by rw [HL.out.2]; exact hlt2)
                obtain ⟨v0, v1⟩ := HV.out p (by rw [HL.out.2]; exact hlt2)
                have dp : (p : Int) < (m : Int) := by omega
                obtain ⟨g, hg⟩ : ∃ g, blg zs ((n + 1) + dg) (lnAt ls p) = g := ⟨_, rfl⟩
                rw [hg] at hst2
                have HG := Lib.hid hg
                have HST2 := Lib.hid hst2
                clear hcL hg hst2
                generalize lnAt ls p = x at *
                go_wp2_with fail
                refine (belongs_int b off n c zs x ((n + 1) + dg) _ (by omega) wr HL.out.1 hnc hm (by omega) HB.out (HR.out.below HP.out.2) v0 v1 g HG.out).mono ?_
                rintro e W2 ⟨rfl, hb2⟩
                have HB2 := Lib.hid (below_step HP.out.2 hb2)
                clear hb2 f0 f1 f2
                cases g with
                | true =>
                  go_wp2_with fail
                  go_roundw
                  case rel =>
                    refine ⟨p + 1, by omega, by omega, by go_num, ?_, HB2.out⟩
                    rw [HP.out.1, HST2.out]; simp; omega
                  case measure => simp [intOf]; omega
                | false =>
                  go_wp2_with fail
                  go_ret2
                  refine ⟨?_, HB2.out⟩
                  rw [HE.out, HP.out.1, HST2.out]
                  exact ret_two (by first | rfl | (simp only []; omega)) (by simp)
              · obtain rfl : p = m := by omega
                have dp : decide (p < p) = false := decide_eq_false (by omega)
                go_wp2_with fail
                go_ret2
                refine ⟨?_, HP.out.2⟩
                first | rw [HE.out, HP.out.1, List.drop_eq_nil_of_le (by rw [HL.out.2]; omega)] | rw [HE.out, List.drop_eq_nil_of_le (by rw [HL.out.2]; omega)]
                exact ret_two (by first | rfl | (simp only []; omega)) (by simp [nblg])
          · have q1 : (n : Int) + 1 < (dg : Int) := by omega
            have he := ext_dg zs ls first (P : Int) dg j ((n + 1) + (n + 1)) hd0 HJ.out (by rw [HL.out.1]; omega)
            have HE := Lib.hid he
            clear he
            go_wp2_with fail
            go_loopw [11] (fun i W => ∃ p : Nat, j ≤ p ∧ p ≤ m ∧ i = .int .i64 (p : Int) ∧ Hid (j + nblg zs ((n + 1) + (n + 1)) (ls.drop j) = p + nblg zs ((n + 1) + (n + 1)) (ls.drop p) ∧ Below w.heap.size w W)) (fun i _ => m - (intOf i).toNat)
            case atStart => exact ⟨j, by omega, by omega, rfl, rfl, HBQ.out⟩
            case round =>
              obtain ⟨p, hp, hpm, rfl, HP⟩ := hrel
              by_cases hlt2 : p < m
              · have hst2 := nblg_step zs ((n + 1) + (n + 1)) ls p (by rw [HL.out.2]; exact hlt2)
                obtain ⟨bL3, offL3, hBLX, hbL3, hcL⟩ := (HRL.out.below HP.out.2).addr (by rw [HL.out.2]; omega)
                first | subst hBLX | (injection hBLX with hBLX; injection hBLX with hq1 hq2; subst hq1 hq2)
                obtain ⟨f0, f1, f2⟩ := hcL p (by rw [HL.out.2]; exact hlt2)
                obtain ⟨v0, v1⟩ := HV.out p (by rw [HL.out.2]; exact hlt2)
                have dp : (p : Int) < (m : Int) := by omega
                obtain ⟨g, hg⟩ : ∃ g, blg zs ((n + 1) + (n + 1)) (lnAt ls p) = g := ⟨_, rfl⟩
                rw [hg] at hst2
                have HG := Lib.hid hg
                have HST2 := Lib.hid hst2
                clear hcL hg hst2
                generalize lnAt ls p = x at *
                go_wp2_with fail
                refine (belongs_int b off n c zs x ((n + 1) + (n + 1)) _ (by omega) wr HL.out.1 hnc hm (by omega) HB.out (HR.out.below HP.out.2) v0 v1 g HG.out).mono ?_
                rintro e W2 ⟨rfl, hb2⟩
                have HB2 := Lib.hid (below_step HP.out.2 hb2)
                clear hb2 f0 f1 f2
                cases g with
                | true =>
                  go_wp2_with fail
                  go_roundw
                  case rel =>
                    refine ⟨p + 1, by omega, by omega, by go_num, ?_, HB2.out⟩
                    rw [HP.out.1, HST2.out]; simp; omega
                  case measure => simp [intOf]; omega
                | false =>
                  go_wp2_with fail
                  go_ret2
                  refine ⟨?_, HB2.out⟩
                  rw [HE.out, HP.out.1, HST2.out]
                  exact ret_two (by first | rfl | (simp only []; omega)) (by simp)
              · obtain rfl : p = m := by omega
                have dp : decide (p < p) = false := decide_eq_false (by omega)
                go_wp2_with fail
                go_ret2
                refine ⟨?_, HP.out.2⟩
                first | rw [HE.out, HP.out.1, List.drop_eq_nil_of_le (by rw [HL.out.2]; omega)] | rw [HE.out, List.drop_eq_nil_of_le (by rw [HL.out.2]; omega)]
                exact ret_two (by first | rfl | (simp only []; omega)) (by simp [nblg])
        · have HDG : Hid (dg = 0) := by show dg = 0; omega
          have dd0 : ¬ 0 < dg := hd0
          have dd1 : decide (0 < dg) = false := decide_eq_false hd0
          have deq : ((j : Int) == (m : Int)) = false := beq_eq_false_iff_ne.2 (by omega)
          have deq' : ¬ j = m := by omega
          have deq2 : (j == m) = false := beq_eq_false_iff_ne.2 deq'
          obtain ⟨bL2, offL2, hBL2, hbL2, hcL⟩ := (HRL.out.below HBQ.out).addr (by rw [HL.out.2]; omega)
          injection hBL2 with hBL2
          injection hBL2 with hBL3 hBL4
          subst hBL3 hBL4
          obtain ⟨f0, f1, f2⟩ := hcL j (by rw [HL.out.2]; exact hlt)
          obtain ⟨v0, v1⟩ := HV.out j (by rw [HL.out.2]; exact hlt)
          obtain ⟨iw, hiw⟩ : ∃ iw, indF zs (lnAt ls j) = iw := ⟨_, rfl⟩
          obtain ⟨mk, hmk⟩ : ∃ mk, dmk zs (lnAt ls j) = mk := ⟨_, rfl⟩
          have hol : onlyF zs ls j (P : Int) = (decide ((iw : Int) ≤ (P : Int)) || mk) := by
            unfold onlyF; rw [hiw, hmk, HL.out.2, deq2]; rfl
          have HX := Lib.hid (And.intro hiw (And.intro hmk hol))
          have hib := indF_le zs (lnAt ls j) v0
          rw [hiw] at hib
          clear hcL hiw hmk hol
          have hext := fun ho => ext_ind zs ls first (P : Int) j iw HJ.out HX.out.1 ho
          have hextO := fun ho => ext_only zs ls first (P : Int) j ((n + 1)) HJ.out (by rw [HL.out.1]; omega) ho
          rw [← HDG.out] at hext hextO
          have HEX := Lib.hid (And.intro hext hextO)
          clear hext hextO
          generalize lnAt ls j = x at *
          have hibn : iw ≤ n := by omega
          go_wp2_with fail
          refine (indent_any b off n c zs x WQ HL.out.1 hnc (by omega) (HR.out.below HBQ.out) v0 v1 iw HX.out.1).mono ?_
          rintro e W3 ⟨rfl, hb3⟩
          obtain ⟨g0, g1, g2⟩ : W3.cell? ⟨bL, offL + j * 3, none⟩ = some (.int .i64 (x.f : Int)) ∧ W3.cell? ⟨bL, offL + j * 3 + 1, none⟩ = some (.int .i64 (x.t : Int)) ∧ W3.cell? ⟨bL, offL + j * 3 + 2, none⟩ = some (.int .i64 (x.n : Int)) := ⟨cell_keep hb3 f0, cell_keep hb3 f1, cell_keep hb3 f2⟩
          have HB3 := Lib.hid (below_step HBQ.out hb3)
          clear hb3 f0 f1 f2
          by_cases hip : (iw : Int) ≤ (P : Int)
          · have he := HEX.out.2 (by rw [HX.out.2.2, decide_eq_true hip]; rfl)
            have HE := Lib.hid he
            clear he
            have hipI : (iw : Int) ≤ (P : Int) := hip
            have hipN : iw ≤ P := by omega
            go_wp2_with fail
            go_ret2
            refine ⟨?_, HB3.out⟩
            rw [HE.out]
            exact ret_two (by simp only []; omega) rfl
          · have hipd : decide ((iw : Int) ≤ (P : Int)) = false := decide_eq_false hip
            exfalso
            omega
    · obtain rfl : j = m := by omega
      have dj : decide (j < j) = false := decide_eq_false (by omega)
      have HJ : Hid (first + nfill zs (ls.drop first) = j) := by
        show _ = _
        rw [HK.out.1, List.drop_eq_nil_of_le (by rw [HL.out.2]; omega)]; rfl
      have HBQ := Lib.hid HK.out.2
      clear HK
      obtain ⟨WQ, hWQ⟩ : ∃ x, x = wr := ⟨_, rfl⟩
      subst hWQ
      by_cases hd0 : 0 < dg
      · have dd0 : (0 : Int) < (dg : Int) := by omega
        by_cases hdn : dg ≤ n + 1
        · have q1 : ¬ (n : Int) + 1 < (dg : Int) := by omega
          have q2 : decide ((n : Int) + 1 < (dg : Int)) = false := decide_eq_false q1
          have he := ext_dg zs ls first (P : Int) dg j ((n + 1) + dg) hd0 HJ.out (by rw [HL.out.1]; omega)
          have HE := Lib.hid he
          clear he
          go_wp2_with fail
          go_loopw [11] (fun i W => ∃ p : Nat, j ≤ p ∧ p ≤ j ∧ i = .int .i64 (p : Int) ∧ Hid (j + nblg zs ((n + 1) + dg) (ls.drop j) = p + nblg zs ((n + 1) + dg) (ls.drop p) ∧ Below w.heap.size w W)) (fun i _ => j - (intOf i).toNat)
          case atStart => exact ⟨j, by omega, by omega, rfl, rfl, HBQ.out⟩
          case round =>
            obtain ⟨p, hp, hpm, rfl, HP⟩ := hrel
            by_cases hlt2 : p < j
            · have hst2 := nblg_step zs ((n + 1) + dg) ls p (by rw [HL.out.2]; exact hlt2)
              obtain ⟨bL3, offL3, hBLX, hbL3, hcL⟩ := (HRL.out.below HP.out.2).addr (by rw [HL.out.2]; omega)
              first | subst hBLX | (injection hBLX with hBLX; injection hBLX with hq1 hq2; subst hq1 hq2)
              obtain ⟨f0, f1, f2⟩ := hcL p (by rw [HL.out.2]; exact hlt2)
              obtain ⟨v0, v1⟩ := HV.out p (by rw [HL.out.2]; exact hlt2)
              have dp : (p : Int) < (j : Int) := by omega
              obtain ⟨g, hg⟩ : ∃ g, blg zs ((n + 1) + dg) (lnAt ls p) = g := ⟨_, rfl⟩
              rw [hg] at hst2
              have HG := Lib.hid hg
              have HST2 := Lib.hid hst2
              clear hcL hg hst2
              generalize lnAt ls p = x at *
              go_wp2_with fail
              refine (belongs_int b off n c zs x ((n + 1) + dg) _ (by omega) wr HL.out.1 hnc hm (by omega) HB.out (HR.out.below HP.out.2) v0 v1 g HG.out).mono ?_
              rintro e W2 ⟨rfl, hb2⟩
              have HB2 := Lib.hid (below_step HP.out.2 hb2)
              clear hb2 f0 f1 f2
              cases g with
              | true =>
                go_wp2_with fail
                go_roundw
                case rel =>
                  refine ⟨p + 1, by omega, by omega, by go_num, ?_, HB2.out⟩
                  rw [HP.out.1, HST2.out]; simp; omega
                case measure => simp [intOf]; omega
              | false =>
                go_wp2_with fail
                go_ret2
                refine ⟨?_, HB2.out⟩
                rw [HE.out, HP.out.1, HST2.out]
                exact ret_two (by first | rfl | (simp only []; omega)) (by simp)
            · obtain rfl : p = j := by omega
              have dp : decide (p < p) = false := decide_eq_false (by omega)
              go_wp2_with fail
              go_ret2
              refine ⟨?_, HP.out.2⟩
              first | rw [HE.out, HP.out.1, List.drop_eq_nil_of_le (by rw [HL.out.2]; omega)] | rw [HE.out, List.drop_eq_nil_of_le (by rw [HL.out.2]; omega)]
              exact ret_two (by first | rfl | (simp only []; omega)) (by simp [nblg])
        · have q1 : (n : Int) + 1 < (dg : Int) := by omega
          have he := ext_dg zs ls first (P : Int) dg j ((n + 1) + (n + 1)) hd0 HJ.out (by rw [HL.out.1]; omega)
          have HE := Lib.hid he
          clear he
          go_wp2_with fail
          go_loopw [11] (fun i W => ∃ p : Nat, j ≤ p ∧ p ≤ j ∧ i = .int .i64 (p : Int) ∧ Hid (j + nblg zs ((n + 1) + (n + 1)) (ls.drop j) = p + nblg zs ((n + 1) + (n + 1)) (ls.drop p) ∧ Below w.heap.size w W)) (fun i _ => j - (intOf i).toNat)
          case atStart => exact ⟨j, by omega, by omega, rfl, rfl, HBQ.out⟩
          case round =>
            obtain ⟨p, hp, hpm, rfl, HP⟩ := hrel
            by_cases hlt2 : p < j
            · have hst2 := nblg_step zs ((n + 1) + (n + 1)) ls p (by rw [HL.out.2]; exact hlt2)
              obtain ⟨bL3, offL3, hBLX, hbL3, hcL⟩ := (HRL.out.below HP.out.2).addr (by rw [HL.out.2]; omega)
              first | subst hBLX | (injection hBLX with hBLX; injection hBLX with hq1 hq2; subst hq1 hq2)
              obtain ⟨f0, f1, f2⟩ := hcL p (by rw [HL.out.2]; exact hlt2)
              obtain ⟨v0, v1⟩ := HV.out p (by rw [HL.out.2]; exact hlt2)
              have dp : (p : Int) < (j : Int) := by omega
              obtain ⟨g, hg⟩ : ∃ g, blg zs ((n + 1) + (n + 1)) (lnAt ls p) = g := ⟨_, rfl⟩
              rw [hg] at hst2
              have HG := Lib.hid hg
              have HST2 := Lib.hid hst2
              clear hcL hg hst2
              generalize lnAt ls p = x at *
              go_wp2_with fail
              refine (belongs_int b off n c zs x ((n + 1) + (n + 1)) _ (by omega) wr HL.out.1 hnc hm (by omega) HB.out (HR.out.below HP.out.2) v0 v1 g HG.out).mono ?_
              rintro e W2 ⟨rfl, hb2⟩
              have HB2 := Lib.hid (below_step HP.out.2 hb2)
              clear hb2 f0 f1 f2
              cases g with
              | true =>
                go_wp2_with fail
                go_roundw
                case rel =>
                  refine ⟨p + 1, by omega, by omega, by go_num, ?_, HB2.out⟩
                  rw [HP.out.1, HST2.out]; simp; omega
                case measure => simp [intOf]; omega
              | false =>
                go_wp2_with fail
                go_ret2
                refine ⟨?_, HB2.out⟩
                rw [HE.out, HP.out.1, HST2.out]
                exact ret_two (by first | rfl | (simp only []; omega)) (by simp)
            · obtain rfl : p = j := by omega
              have dp : decide (p < p) = false := decide_eq_false (by omega)
              go_wp2_with fail
              go_ret2
              refine ⟨?_, HP.out.2⟩
              first | rw [HE.out, HP.out.1, List.drop_eq_nil_of_le (by rw [HL.out.2]; omega)] | rw [HE.out, List.drop_eq_nil_of_le (by rw [HL.out.2]; omega)]
              exact ret_two (by first | rfl | (simp only []; omega)) (by simp [nblg])
      · have HDG : Hid (dg = 0) := by show dg = 0; omega
        have dd0 : ¬ 0 < dg := hd0
        have dd1 : decide (0 < dg) = false := decide_eq_false hd0
        have he := ext_only zs ls first (P : Int) j ((n + 1)) HJ.out (by rw [HL.out.1]; omega) (by unfold onlyF; rw [HL.out.2]; simp)
        rw [← HDG.out] at he
        have HE := Lib.hid he
        clear he
        have deq : ((j : Int) == (j : Int)) = true := by simp
        go_wp2_with fail
        go_ret2
        refine ⟨?_, HBQ.out⟩
        rw [HE.out]
        exact ret_two (by simp only []; omega) rfl


theorem extent_any (b off : Nat) (n c : Nat) (zs : List Int) (B : Option Addr) (m d : Nat) (ls : List Ln) (first : Nat) (parent : Int) (dg : Nat) (w : World) (hl : zs.length = n) (hnc : n ≤ c) (hm : c ≤ 9223372036854775807) (hn : n ≤ 100000) (hb : Byte zs) (hr : RdB w (some ⟨b, off, none⟩) zs)
    (hls : ls.length = m) (hmd : m ≤ d) (hm1 : m ≤ 100000) (hrl : RdL w B ls) (hv : Lies n ls) (hf : first ≤ m) (hp1 : -1 ≤ parent) (hp2 : parent ≤ 100000) (hdg : dg ≤ 100000) :
    Calls Try.prog 33 #[.slice (some ⟨b, off, none⟩) n c, .slice B m d, .int .i64 (first : Int), .int .i64 parent, .int .i64 (dg : Int)] w fun e w' => e = .returned (.tuple #[.int .i64 ((extF zs ls first parent dg).1 : Int), .int .i64 ((extF zs ls first parent dg).2 : Int)]) ∧ Below w.heap.size w w' := by
  by_cases h0 : parent < 0
  · obtain rfl : parent = -1 := by omega
    exact extent_neg b off n c zs B m d ls first 0 dg w hl hnc hm hn hb hr hls hmd hm1 hrl hv hf (by omega) hdg
  · obtain ⟨P, rfl⟩ : ∃ P : Nat, parent = (P : Int) := ⟨parent.toNat, by omega⟩
    by_cases hP : P ≤ n + 1
    · exact extent_low b off n c zs B m d ls first P dg w hl hnc hm hn hb hr hls hmd hm1 hrl hv hf (by omega) hdg hP
    · exact extent_far b off n c zs B m d ls first P dg w hl hnc hm hn hb hr hls hmd hm1 hrl hv hf (by omega) hdg (by omega)
end Go.Proofs.Ytodnfdkcmhiljaa
