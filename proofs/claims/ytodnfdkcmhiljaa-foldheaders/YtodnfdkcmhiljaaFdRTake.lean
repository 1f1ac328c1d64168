/- The document's own answer (scholiumref01) for TakeHeader. -/
import Derived.Test.YtodnfdkcmhiljaaFdTake
namespace Go.Proofs.Ytodnfdkcmhiljaa
open Go.RowKit
set_option linter.unusedVariables false

theorem set2 {W : World} {g : Nat} {x0 x1 x2 x3 y1 y2 : Value} {T : TypeId} (h : W.heap[g]? = some (.cells #[x0, x1, x2, x3] T)) :
    ((W.setCell ⟨g, 1, none⟩ y1).setCell ⟨g, 2, none⟩ y2).heap[g]? = some (.cells #[x0, y1, y2, x3] T) := by
  simp [World.setCell, Array.getElem?_modify, h]
theorem set1 {W : World} {g : Nat} {x0 x1 x2 x3 y3 : Value} {T : TypeId} (h : W.heap[g]? = some (.cells #[x0, x1, x2, x3] T)) :
    (W.setCell ⟨g, 3, none⟩ y3).heap[g]? = some (.cells #[x0, x1, x2, y3] T) := by
  simp [World.setCell, Array.getElem?_modify, h]
theorem new2 (w : World) (o1 o2 : Obj) : ((w.alloc o1).alloc o2).heap[w.heap.size + 1]? = some o2 := by
  have := heap_alloc_new (w.alloc o1) o2
  rwa [show (w.alloc o1).heap.size = w.heap.size + 1 by simp] at this
theorem new1 (w : World) (o1 o2 : Obj) : ((w.alloc o1).alloc o2).heap[w.heap.size]? = some o1 := (Below.heap_alloc _ _ _ (by simp)).trans (heap_alloc_new w _)
/-- What stands in the document's TakeHeader: the header that is read, and the one that is handed back. -/
def RtAt (w W : World) (h : Hd) : Prop := W.heap[w.heap.size + 1]? = some (.cells (hdC h) 41) ∧ (∃ g : Hd, W.heap[w.heap.size]? = some (.cells (hdC g) 41)) ∧ Below w.heap.size w W

set_option maxHeartbeats 4000000 in
set_option maxRecDepth 100000 in
theorem refTakeHeader_any (A : Option Addr) (n c : Nat) (zs : List Int) (w : World) (hl : zs.length = n) (hnc : n ≤ c) (hm : c ≤ 9223372036854775807) (hb : Byte zs) (hr : RdB w A zs) :
    Calls Try.prog 21 #[.slice A n c] w (TkP zs w) := by
  have HR := Lib.hid hr
  have HB := Lib.hid hb
  have HL := Lib.hid hl
  clear hr hb hl
  unfold TkP
  by_cases h0 : n = 0
  · have hz : zs = [] := List.eq_nil_of_length_eq_zero (by rw [HL.out]; exact h0)
    rw [tkH_none zs (by rw [hz]; decide) (by rw [hz]; decide)]
    subst h0
    go_enter Try.func21, Try.ntmps21
    go_wp2
    exact bodyPost_ret (v := .tuple #[hdV Hd.nil, .int .i64 0, .bool false]) (by simp [results, Try.results21, go_sem, hdV, Hd.nil]) rfl ⟨by simp, (Below.refl _ _).alloc (Nat.le_refl _) _⟩
  · obtain ⟨b, off, rfl, hc⟩ := HR.out.addr (by rw [HL.out]; omega)
    have hc0 := hc 0 (by rw [HL.out]; omega)
    rw [Nat.add_zero] at hc0
    have hbl : b < w.heap.size := World.block_lt_of_cell? _ _ hc0
    have hn0 : ((n : Int) == 0) = false := beq_eq_false_iff_ne.2 (by omega)
    by_cases h1 : zs.getD 0 0 = 124 ∨ zs.getD 0 0 = 62
    · rw [tkH_some zs h1]
      have HC := Lib.hid hc
      obtain ⟨z, hz⟩ : ∃ z, zs.getD 0 0 = z := ⟨_, rfl⟩
      rw [hz] at h1 hc0
      simp only [hz]
      clear hz hc
      obtain ⟨fo, hfo⟩ : ∃ fo, decide (z = 62) = fo := ⟨_, rfl⟩
      rw [hfo]
      rcases h1 with rfl | rfl
      · obtain rfl : fo = false := by rw [← hfo]; decide
        clear hfo
        go_enter Try.func21, Try.ntmps21
        go_wp2_with fail
        clear hc0
        go_loopw [6] (fun i W => ∃ (j : Nat) (h : Hd), 1 ≤ j ∧ j ≤ n ∧ i = .int .i64 (j : Int) ∧
          Hid ((hdGo ⟨false, false, false, 0⟩ (zs.drop 1)).1 = (hdGo h (zs.drop j)).1 ∧ (hdGo ⟨false, false, false, 0⟩ (zs.drop 1)).2 + 1 = (hdGo h (zs.drop j)).2 + j ∧ room h + j ≤ 3 ∧ RtAt w W h)) (fun i _ => n - (intOf i).toNat)
        case atStart => exact ⟨1, ⟨false, false, false, 0⟩, by omega, by omega, rfl, rfl, rfl, (by decide), new2 _ _ _, ⟨Hd.nil, new1 _ _ _⟩, ((Below.refl _ _).alloc (Nat.le_refl _) _).alloc (by simp) _⟩
        case round =>
          obtain ⟨j, h, hj1, hjn, rfl, HK⟩ := hrel
          obtain ⟨g0, hd0⟩ := HK.out.2.2.2.2.1
          have hh := HK.out.2.2.2.1
          unfold hdC at hh hd0
          have hrm := HK.out.2.2.1
          have hlt0 : w.heap.size < wr.heap.size := by rw [Array.getElem?_eq_some_iff] at hd0; exact hd0.1
          have c0 : wr.cell? ⟨w.heap.size + 1, 0, none⟩ = some (.bool h.fo) := by simp [World.cell?, hh]
          have c1 : wr.cell? ⟨w.heap.size + 1, 1, none⟩ = some (.bool h.st) := by simp [World.cell?, hh]
          have c2 : wr.cell? ⟨w.heap.size + 1, 2, none⟩ = some (.bool h.ke) := by simp [World.cell?, hh]
          have c3 : wr.cell? ⟨w.heap.size + 1, 3, none⟩ = some (.int .i64 (h.dg : Int)) := by simp [World.cell?, hh]
          have z1 : wr.frozen? ⟨w.heap.size + 1, 1, none⟩ = false := by simp [World.frozen?, hh]
          have z2 : wr.frozen? ⟨w.heap.size + 1, 2, none⟩ = false := by simp [World.frozen?, hh]
          have z3 : wr.frozen? ⟨w.heap.size + 1, 3, none⟩ = false := by simp [World.frozen?, hh]
          have y0 : wr.frozen? ⟨w.heap.size, 0, none⟩ = false := by simp [World.frozen?, hd0]
          have y1 : wr.frozen? ⟨w.heap.size, 1, none⟩ = false := by simp [World.frozen?, hd0]
          have y2 : wr.frozen? ⟨w.heap.size, 2, none⟩ = false := by simp [World.frozen?, hd0]
          have y3 : wr.frozen? ⟨w.heap.size, 3, none⟩ = false := by simp [World.frozen?, hd0]
          have e0 : wr.cell? ⟨w.heap.size, 0, none⟩ = some (.bool g0.fo) := by simp [World.cell?, hd0]
          have e1 : wr.cell? ⟨w.heap.size, 1, none⟩ = some (.bool g0.st) := by simp [World.cell?, hd0]
          have e2 : wr.cell? ⟨w.heap.size, 2, none⟩ = some (.bool g0.ke) := by simp [World.cell?, hd0]
          have e3 : wr.cell? ⟨w.heap.size, 3, none⟩ = some (.int .i64 (g0.dg : Int)) := by simp [World.cell?, hd0]
          by_cases hlt : j < n ∧ j < 3
          · obtain ⟨hlt, hl3⟩ := hlt
            have d1 : (j : Int) < (n : Int) := by omega
            have d3 : (j : Int) < 3 := by omega
            have hz := cell_keep HK.out.2.2.2.2.2 (HC.out j (by rw [HL.out]; exact hlt))
            have hzb := HB.out.at_ (k := j) (by rw [HL.out]; exact hlt)
            have hdr : zs.drop j = zs.getD j 0 :: zs.drop (j + 1) := by
              rw [List.drop_eq_getElem_cons (by rw [HL.out]; exact hlt)]
              congr 1
              simp [List.getD, show j < zs.length by rw [HL.out]; exact hlt]
            generalize zs.getD j 0 = z at *
            have HD := Lib.hid hdr
            have HHD := Lib.hid (And.intro hh hd0)
            clear hdr hh
            rcases with_ways h z with ⟨hc, hs, hk, hw⟩ | ⟨hnn, hc1, hc2, hdg, hw⟩ | ⟨hnn, hn2, hw⟩
            · have e1' := hdGo_more h _ z (zs.drop (j + 1)) hw
              rw [← HD.out] at e1'
              have HE := Lib.hid (And.intro e1' (with_room h _ z hw))
              clear e1' hw
              rw [hs] at c1
              rw [hk] at c2
              have HSK := Lib.hid (And.intro hs hk)
              clear hs hk
              rcases hc with rfl | rfl
              · go_wp2_with fail
                go_roundw
                case rel =>
                  refine ⟨j + 1, ⟨h.fo, true, false, h.dg⟩, by omega, by omega, by go_num, ?_, ?_, ?_, set2 HHD.out.1, ⟨g0, ?_⟩, ?_⟩
                  · rw [HK.out.1, HE.out.1]; rfl
                  · rw [HK.out.2.1, HE.out.1]; show _ + 1 + j = _ + (j + 1); rw [Nat.add_right_comm]; rfl
                  · have := HE.out.2; simp at this; omega
                  · exact ((Below.heap_setCell _ _ _ _ (by simp)).trans (Below.heap_setCell _ _ _ _ (by simp))).trans HHD.out.2
                  · exact (HK.out.2.2.2.2.2.setCell (p := ⟨w.heap.size + 1, 1, none⟩) (by simp) _).setCell (p := ⟨w.heap.size + 1, 2, none⟩) (by simp) _
                case measure => simp [intOf]; omega
              · go_wp2_with fail
                go_roundw
                case rel =>
                  refine ⟨j + 1, ⟨h.fo, false, true, h.dg⟩, by omega, by omega, by go_num, ?_, ?_, ?_, set2 HHD.out.1, ⟨g0, ?_⟩, ?_⟩
                  · rw [HK.out.1, HE.out.1]; rfl
                  · rw [HK.out.2.1, HE.out.1]; show _ + 1 + j = _ + (j + 1); rw [Nat.add_right_comm]; rfl
                  · have := HE.out.2; simp at this; omega
                  · exact ((Below.heap_setCell _ _ _ _ (by simp)).trans (Below.heap_setCell _ _ _ _ (by simp))).trans HHD.out.2
                  · exact (HK.out.2.2.2.2.2.setCell (p := ⟨w.heap.size + 1, 1, none⟩) (by simp) _).setCell (p := ⟨w.heap.size + 1, 2, none⟩) (by simp) _
                case measure => simp [intOf]; omega
            · have e1' := hdGo_more h _ z (zs.drop (j + 1)) hw
              rw [← HD.out] at e1'
              have HE := Lib.hid (And.intro e1' (with_room h _ z hw))
              clear e1' hw hnn
              rw [hdg] at c3
              clear hdg
              have f1 : (z == 45) = false := beq_eq_false_iff_ne.2 (by omega)
              have f2 : (z == 43) = false := beq_eq_false_iff_ne.2 (by omega)
              obtain ⟨d, hd⟩ : ∃ d : Nat, (z - 48).toNat = d := ⟨_, rfl⟩
              have HDG : Hid ((d : Int) = z - 48) := by show (d : Int) = z - 48; omega
              rw [hd] at HE
              clear hd
              go_wp2_with fail
              go_roundw
              case rel =>
                refine ⟨j + 1, ⟨h.fo, h.st, h.ke, d⟩, by omega, by omega, by go_num, ?_, ?_, ?_, ?_, ⟨g0, ?_⟩, ?_⟩
                · rw [HK.out.1, HE.out.1]
                · rw [HK.out.2.1, HE.out.1]; omega
                · have := HE.out.2; omega
                · refine (set1 HHD.out.1).trans ?_
                  simp [hdC, HDG.out]
                · exact (Below.heap_setCell _ _ _ _ (by simp)).trans HHD.out.2
                · exact HK.out.2.2.2.2.2.setCell (p := ⟨w.heap.size + 1, 3, none⟩) (by simp) _
              case measure => simp [intOf]; omega
            · have e1' := hdGo_stop h z (zs.drop (j + 1)) hw
              rw [← HD.out] at e1'
              have HE := Lib.hid e1'
              clear e1' hw
              have hways := with_none h.fo h.st h.ke h.dg z hnn hn2
              clear hnn hn2
              rcases hways with ⟨rfl, hs⟩ | ⟨rfl, hs⟩ | ⟨rfl, hs, hk⟩ | ⟨rfl, hs, hk⟩ | ⟨n1, n2, n3⟩ | rfl | ⟨n1, n2, n3, n4, n5⟩ | n3
              · rw [hs] at c1
                have HSK := Lib.hid hs
                clear hs
                go_wp2_with fail
                obtain ⟨Y, hY⟩ : ∃ Y, ((((wr.setCell ⟨w.heap.size, 0, none⟩ (.bool h.fo)).setCell ⟨w.heap.size, 1, none⟩ (.bool true)).setCell ⟨w.heap.size, 2, none⟩ (.bool h.ke)).setCell ⟨w.heap.size, 3, none⟩ (.int .i64 (h.dg : Int))) = Y := ⟨_, rfl⟩
                have hx : Y.heap[w.heap.size]? = some (.cells (hdC h) 41) := by rw [← hY]; refine (set4 hd0).trans ?_; simp [hdC, HSK.out]
                have hxb : Below w.heap.size w Y := by rw [← hY]; exact set4_below HK.out.2.2.2.2.2 (Nat.le_refl _)
                rw [hY]
                clear hY
                have k0 : Y.cell? ⟨w.heap.size, 0, none⟩ = some (.bool h.fo) := by simp [World.cell?, hx, hdC]
                have k1 : Y.cell? ⟨w.heap.size, 1, none⟩ = some (.bool h.st) := by simp [World.cell?, hx, hdC]
                have k2 : Y.cell? ⟨w.heap.size, 2, none⟩ = some (.bool h.ke) := by simp [World.cell?, hx, hdC]
                have k3 : Y.cell? ⟨w.heap.size, 3, none⟩ = some (.int .i64 (h.dg : Int)) := by simp [World.cell?, hx, hdC]
                exact bodyPost_ret (v := .tuple #[hdV h, .int .i64 (j : Int), .bool true]) (by simp [results, Try.results21, go_sem, hdV, k0, k1, k2, k3]) rfl ⟨by first | (rw [HK.out.1, HK.out.2.1, HE.out]; simp; done) | (have a1 := HK.out.1; have a2 := HK.out.2.1; rw [HE.out] at a1 a2; rw [List.drop_one] at a1 a2; rw [a1, show (_ : Int) + 1 = (j : Int) from (by have := a2; omega)]), hxb⟩
              · rw [hs] at c1
                have HSK := Lib.hid hs
                clear hs
                go_wp2_with fail
                obtain ⟨Y, hY⟩ : ∃ Y, ((((wr.setCell ⟨w.heap.size, 0, none⟩ (.bool h.fo)).setCell ⟨w.heap.size, 1, none⟩ (.bool true)).setCell ⟨w.heap.size, 2, none⟩ (.bool h.ke)).setCell ⟨w.heap.size, 3, none⟩ (.int .i64 (h.dg : Int))) = Y := ⟨_, rfl⟩
                have hx : Y.heap[w.heap.size]? = some (.cells (hdC h) 41) := by rw [← hY]; refine (set4 hd0).trans ?_; simp [hdC, HSK.out]
                have hxb : Below w.heap.size w Y := by rw [← hY]; exact set4_below HK.out.2.2.2.2.2 (Nat.le_refl _)
                rw [hY]
                clear hY
                have k0 : Y.cell? ⟨w.heap.size, 0, none⟩ = some (.bool h.fo) := by simp [World.cell?, hx, hdC]
                have k1 : Y.cell? ⟨w.heap.size, 1, none⟩ = some (.bool h.st) := by simp [World.cell?, hx, hdC]
                have k2 : Y.cell? ⟨w.heap.size, 2, none⟩ = some (.bool h.ke) := by simp [World.cell?, hx, hdC]
                have k3 : Y.cell? ⟨w.heap.size, 3, none⟩ = some (.int .i64 (h.dg : Int)) := by simp [World.cell?, hx, hdC]
                exact bodyPost_ret (v := .tuple #[hdV h, .int .i64 (j : Int), .bool true]) (by simp [results, Try.results21, go_sem, hdV, k0, k1, k2, k3]) rfl ⟨by first | (rw [HK.out.1, HK.out.2.1, HE.out]; simp; done) | (have a1 := HK.out.1; have a2 := HK.out.2.1; rw [HE.out] at a1 a2; rw [List.drop_one] at a1 a2; rw [a1, show (_ : Int) + 1 = (j : Int) from (by have := a2; omega)]), hxb⟩
              · rw [hs] at c1
                rw [hk] at c2
                have HSK := Lib.hid (And.intro hs hk)
                clear hs hk
                go_wp2_with fail
                obtain ⟨Y, hY⟩ : ∃ Y, ((((wr.setCell ⟨w.heap.size, 0, none⟩ (.bool h.fo)).setCell ⟨w.heap.size, 1, none⟩ (.bool false)).setCell ⟨w.heap.size, 2, none⟩ (.bool true)).setCell ⟨w.heap.size, 3, none⟩ (.int .i64 (h.dg : Int))) = Y := ⟨_, rfl⟩
                have hx : Y.heap[w.heap.size]? = some (.cells (hdC h) 41) := by rw [← hY]; refine (set4 hd0).trans ?_; simp [hdC, HSK.out.1, HSK.out.2]
                have hxb : Below w.heap.size w Y := by rw [← hY]; exact set4_below HK.out.2.2.2.2.2 (Nat.le_refl _)
                rw [hY]
                clear hY
                have k0 : Y.cell? ⟨w.heap.size, 0, none⟩ = some (.bool h.fo) := by simp [World.cell?, hx, hdC]
                have k1 : Y.cell? ⟨w.heap.size, 1, none⟩ = some (.bool h.st) := by simp [World.cell?, hx, hdC]
                have k2 : Y.cell? ⟨w.heap.size, 2, none⟩ = some (.bool h.ke) := by simp [World.cell?, hx, hdC]
                have k3 : Y.cell? ⟨w.heap.size, 3, none⟩ = some (.int .i64 (h.dg : Int)) := by simp [World.cell?, hx, hdC]
                exact bodyPost_ret (v := .tuple #[hdV h, .int .i64 (j : Int), .bool true]) (by simp [results, Try.results21, go_sem, hdV, k0, k1, k2, k3]) rfl ⟨by first | (rw [HK.out.1, HK.out.2.1, HE.out]; simp; done) | (have a1 := HK.out.1; have a2 := HK.out.2.1; rw [HE.out] at a1 a2; rw [List.drop_one] at a1 a2; rw [a1, show (_ : Int) + 1 = (j : Int) from (by have := a2; omega)]), hxb⟩
              · rw [hs] at c1
                rw [hk] at c2
                have HSK := Lib.hid (And.intro hs hk)
                clear hs hk
                go_wp2_with fail
                obtain ⟨Y, hY⟩ : ∃ Y, ((((wr.setCell ⟨w.heap.size, 0, none⟩ (.bool h.fo)).setCell ⟨w.heap.size, 1, none⟩ (.bool false)).setCell ⟨w.heap.size, 2, none⟩ (.bool true)).setCell ⟨w.heap.size, 3, none⟩ (.int .i64 (h.dg : Int))) = Y := ⟨_, rfl⟩
                have hx : Y.heap[w.heap.size]? = some (.cells (hdC h) 41) := by rw [← hY]; refine (set4 hd0).trans ?_; simp [hdC, HSK.out.1, HSK.out.2]
                have hxb : Below w.heap.size w Y := by rw [← hY]; exact set4_below HK.out.2.2.2.2.2 (Nat.le_refl _)
                rw [hY]
                clear hY
                have k0 : Y.cell? ⟨w.heap.size, 0, none⟩ = some (.bool h.fo) := by simp [World.cell?, hx, hdC]
                have k1 : Y.cell? ⟨w.heap.size, 1, none⟩ = some (.bool h.st) := by simp [World.cell?, hx, hdC]
                have k2 : Y.cell? ⟨w.heap.size, 2, none⟩ = some (.bool h.ke) := by simp [World.cell?, hx, hdC]
                have k3 : Y.cell? ⟨w.heap.size, 3, none⟩ = some (.int .i64 (h.dg : Int)) := by simp [World.cell?, hx, hdC]
                exact bodyPost_ret (v := .tuple #[hdV h, .int .i64 (j : Int), .bool true]) (by simp [results, Try.results21, go_sem, hdV, k0, k1, k2, k3]) rfl ⟨by first | (rw [HK.out.1, HK.out.2.1, HE.out]; simp; done) | (have a1 := HK.out.1; have a2 := HK.out.2.1; rw [HE.out] at a1 a2; rw [List.drop_one] at a1 a2; rw [a1, show (_ : Int) + 1 = (j : Int) from (by have := a2; omega)]), hxb⟩
              · have f1 : (z == 45) = false := beq_eq_false_iff_ne.2 n1
                have f2 : (z == 43) = false := beq_eq_false_iff_ne.2 n2
                have f3 : decide (49 ≤ z) = false := decide_eq_false (by omega)
                clear n1 n2
                go_wp2_with fail
                obtain ⟨Y, hY⟩ : ∃ Y, ((((wr.setCell ⟨w.heap.size, 0, none⟩ (.bool h.fo)).setCell ⟨w.heap.size, 1, none⟩ (.bool h.st)).setCell ⟨w.heap.size, 2, none⟩ (.bool h.ke)).setCell ⟨w.heap.size, 3, none⟩ (.int .i64 (h.dg : Int))) = Y := ⟨_, rfl⟩
                have hx : Y.heap[w.heap.size]? = some (.cells (hdC h) 41) := by rw [← hY]; exact set4 hd0
                have hxb : Below w.heap.size w Y := by rw [← hY]; exact set4_below HK.out.2.2.2.2.2 (Nat.le_refl _)
                rw [hY]
                clear hY
                have k0 : Y.cell? ⟨w.heap.size, 0, none⟩ = some (.bool h.fo) := by simp [World.cell?, hx, hdC]
                have k1 : Y.cell? ⟨w.heap.size, 1, none⟩ = some (.bool h.st) := by simp [World.cell?, hx, hdC]
                have k2 : Y.cell? ⟨w.heap.size, 2, none⟩ = some (.bool h.ke) := by simp [World.cell?, hx, hdC]
                have k3 : Y.cell? ⟨w.heap.size, 3, none⟩ = some (.int .i64 (h.dg : Int)) := by simp [World.cell?, hx, hdC]
                exact bodyPost_ret (v := .tuple #[hdV h, .int .i64 (j : Int), .bool true]) (by simp [results, Try.results21, go_sem, hdV, k0, k1, k2, k3]) rfl ⟨by first | (rw [HK.out.1, HK.out.2.1, HE.out]; simp; done) | (have a1 := HK.out.1; have a2 := HK.out.2.1; rw [HE.out] at a1 a2; rw [List.drop_one] at a1 a2; rw [a1, show (_ : Int) + 1 = (j : Int) from (by have := a2; omega)]), hxb⟩
              · skip
                go_wp2_with fail
                obtain ⟨Y, hY⟩ : ∃ Y, ((((wr.setCell ⟨w.heap.size, 0, none⟩ (.bool h.fo)).setCell ⟨w.heap.size, 1, none⟩ (.bool h.st)).setCell ⟨w.heap.size, 2, none⟩ (.bool h.ke)).setCell ⟨w.heap.size, 3, none⟩ (.int .i64 (h.dg : Int))) = Y := ⟨_, rfl⟩
                have hx : Y.heap[w.heap.size]? = some (.cells (hdC h) 41) := by rw [← hY]; exact set4 hd0
                have hxb : Below w.heap.size w Y := by rw [← hY]; exact set4_below HK.out.2.2.2.2.2 (Nat.le_refl _)
                rw [hY]
                clear hY
                have k0 : Y.cell? ⟨w.heap.size, 0, none⟩ = some (.bool h.fo) := by simp [World.cell?, hx, hdC]
                have k1 : Y.cell? ⟨w.heap.size, 1, none⟩ = some (.bool h.st) := by simp [World.cell?, hx, hdC]
                have k2 : Y.cell? ⟨w.heap.size, 2, none⟩ = some (.bool h.ke) := by simp [World.cell?, hx, hdC]
                have k3 : Y.cell? ⟨w.heap.size, 3, none⟩ = some (.int .i64 (h.dg : Int)) := by simp [World.cell?, hx, hdC]
                exact bodyPost_ret (v := .tuple #[hdV h, .int .i64 (j : Int), .bool true]) (by simp [results, Try.results21, go_sem, hdV, k0, k1, k2, k3]) rfl ⟨by first | (rw [HK.out.1, HK.out.2.1, HE.out]; simp; done) | (have a1 := HK.out.1; have a2 := HK.out.2.1; rw [HE.out] at a1 a2; rw [List.drop_one] at a1 a2; rw [a1, show (_ : Int) + 1 = (j : Int) from (by have := a2; omega)]), hxb⟩
              · have f1 : (z == 45) = false := beq_eq_false_iff_ne.2 n1
                have f2 : (z == 43) = false := beq_eq_false_iff_ne.2 n2
                have f4 : ((h.dg : Int) == 0) = false := beq_eq_false_iff_ne.2 (by omega)
                clear n1 n2 n5
                go_wp2_with fail
                obtain ⟨Y, hY⟩ : ∃ Y, ((((wr.setCell ⟨w.heap.size, 0, none⟩ (.bool h.fo)).setCell ⟨w.heap.size, 1, none⟩ (.bool h.st)).setCell ⟨w.heap.size, 2, none⟩ (.bool h.ke)).setCell ⟨w.heap.size, 3, none⟩ (.int .i64 (h.dg : Int))) = Y := ⟨_, rfl⟩
                have hx : Y.heap[w.heap.size]? = some (.cells (hdC h) 41) := by rw [← hY]; exact set4 hd0
                have hxb : Below w.heap.size w Y := by rw [← hY]; exact set4_below HK.out.2.2.2.2.2 (Nat.le_refl _)
                rw [hY]
                clear hY
                have k0 : Y.cell? ⟨w.heap.size, 0, none⟩ = some (.bool h.fo) := by simp [World.cell?, hx, hdC]
                have k1 : Y.cell? ⟨w.heap.size, 1, none⟩ = some (.bool h.st) := by simp [World.cell?, hx, hdC]
                have k2 : Y.cell? ⟨w.heap.size, 2, none⟩ = some (.bool h.ke) := by simp [World.cell?, hx, hdC]
                have k3 : Y.cell? ⟨w.heap.size, 3, none⟩ = some (.int .i64 (h.dg : Int)) := by simp [World.cell?, hx, hdC]
                exact bodyPost_ret (v := .tuple #[hdV h, .int .i64 (j : Int), .bool true]) (by simp [results, Try.results21, go_sem, hdV, k0, k1, k2, k3]) rfl ⟨by first | (rw [HK.out.1, HK.out.2.1, HE.out]; simp; done) | (have a1 := HK.out.1; have a2 := HK.out.2.1; rw [HE.out] at a1 a2; rw [List.drop_one] at a1 a2; rw [a1, show (_ : Int) + 1 = (j : Int) from (by have := a2; omega)]), hxb⟩
              · have f1 : (z == 45) = false := beq_eq_false_iff_ne.2 (by omega)
                have f2 : (z == 43) = false := beq_eq_false_iff_ne.2 (by omega)
                have f3 : decide (z ≤ 57) = false := decide_eq_false (by omega)
                have g1 : 49 ≤ z := by omega
                go_wp2_with fail
                obtain ⟨Y, hY⟩ : ∃ Y, ((((wr.setCell ⟨w.heap.size, 0, none⟩ (.bool h.fo)).setCell ⟨w.heap.size, 1, none⟩ (.bool h.st)).setCell ⟨w.heap.size, 2, none⟩ (.bool h.ke)).setCell ⟨w.heap.size, 3, none⟩ (.int .i64 (h.dg : Int))) = Y := ⟨_, rfl⟩
                have hx : Y.heap[w.heap.size]? = some (.cells (hdC h) 41) := by rw [← hY]; exact set4 hd0
                have hxb : Below w.heap.size w Y := by rw [← hY]; exact set4_below HK.out.2.2.2.2.2 (Nat.le_refl _)
                rw [hY]
                clear hY
                have k0 : Y.cell? ⟨w.heap.size, 0, none⟩ = some (.bool h.fo) := by simp [World.cell?, hx, hdC]
                have k1 : Y.cell? ⟨w.heap.size, 1, none⟩ = some (.bool h.st) := by simp [World.cell?, hx, hdC]
                have k2 : Y.cell? ⟨w.heap.size, 2, none⟩ = some (.bool h.ke) := by simp [World.cell?, hx, hdC]
                have k3 : Y.cell? ⟨w.heap.size, 3, none⟩ = some (.int .i64 (h.dg : Int)) := by simp [World.cell?, hx, hdC]
                exact bodyPost_ret (v := .tuple #[hdV h, .int .i64 (j : Int), .bool true]) (by simp [results, Try.results21, go_sem, hdV, k0, k1, k2, k3]) rfl ⟨by first | (rw [HK.out.1, HK.out.2.1, HE.out]; simp; done) | (have a1 := HK.out.1; have a2 := HK.out.2.1; rw [HE.out] at a1 a2; rw [List.drop_one] at a1 a2; rw [a1, show (_ : Int) + 1 = (j : Int) from (by have := a2; omega)]), hxb⟩
          · have hst : hdGo h (zs.drop j) = (h, 0) := by
              by_cases hjn' : j < n
              · have hr0 : room h = 0 := by omega
                cases hdr : zs.drop j with
                | nil => rfl
                | cons x t => exact hdGo_stop h x t (with_full h x hr0)
              · rw [List.drop_eq_nil_of_le (by rw [HL.out]; omega)]; rfl
            have HE := Lib.hid hst
            clear hst
            by_cases hjn' : j < n
            · have d1 : (j : Int) < (n : Int) := by omega
              have d3 : decide ((j : Int) < 3) = false := decide_eq_false (by omega)
              have d3' : ¬ (j : Int) < 3 := by omega
              clear hh
              go_wp2_with fail
              obtain ⟨Y, hY⟩ : ∃ Y, ((((wr.setCell ⟨w.heap.size, 0, none⟩ (.bool h.fo)).setCell ⟨w.heap.size, 1, none⟩ (.bool h.st)).setCell ⟨w.heap.size, 2, none⟩ (.bool h.ke)).setCell ⟨w.heap.size, 3, none⟩ (.int .i64 (h.dg : Int))) = Y := ⟨_, rfl⟩
              have hx : Y.heap[w.heap.size]? = some (.cells (hdC h) 41) := by rw [← hY]; exact set4 hd0
              have hxb : Below w.heap.size w Y := by rw [← hY]; exact set4_below HK.out.2.2.2.2.2 (Nat.le_refl _)
              rw [hY]
              clear hY
              have k0 : Y.cell? ⟨w.heap.size, 0, none⟩ = some (.bool h.fo) := by simp [World.cell?, hx, hdC]
              have k1 : Y.cell? ⟨w.heap.size, 1, none⟩ = some (.bool h.st) := by simp [World.cell?, hx, hdC]
              have k2 : Y.cell? ⟨w.heap.size, 2, none⟩ = some (.bool h.ke) := by simp [World.cell?, hx, hdC]
              have k3 : Y.cell? ⟨w.heap.size, 3, none⟩ = some (.int .i64 (h.dg : Int)) := by simp [World.cell?, hx, hdC]
              exact bodyPost_ret (v := .tuple #[hdV h, .int .i64 (j : Int), .bool true]) (by simp [results, Try.results21, go_sem, hdV, k0, k1, k2, k3]) rfl ⟨by first | (rw [HK.out.1, HK.out.2.1, HE.out]; simp; done) | (have a1 := HK.out.1; have a2 := HK.out.2.1; rw [HE.out] at a1 a2; rw [List.drop_one] at a1 a2; rw [a1, show (_ : Int) + 1 = (j : Int) from (by have := a2; omega)]), hxb⟩
            · have d1 : decide (j < n) = false := decide_eq_false hjn'
              clear hh
              go_wp2_with fail
              obtain ⟨Y, hY⟩ : ∃ Y, ((((wr.setCell ⟨w.heap.size, 0, none⟩ (.bool h.fo)).setCell ⟨w.heap.size, 1, none⟩ (.bool h.st)).setCell ⟨w.heap.size, 2, none⟩ (.bool h.ke)).setCell ⟨w.heap.size, 3, none⟩ (.int .i64 (h.dg : Int))) = Y := ⟨_, rfl⟩
              have hx : Y.heap[w.heap.size]? = some (.cells (hdC h) 41) := by rw [← hY]; exact set4 hd0
              have hxb : Below w.heap.size w Y := by rw [← hY]; exact set4_below HK.out.2.2.2.2.2 (Nat.le_refl _)
              rw [hY]
              clear hY
              have k0 : Y.cell? ⟨w.heap.size, 0, none⟩ = some (.bool h.fo) := by simp [World.cell?, hx, hdC]
              have k1 : Y.cell? ⟨w.heap.size, 1, none⟩ = some (.bool h.st) := by simp [World.cell?, hx, hdC]
              have k2 : Y.cell? ⟨w.heap.size, 2, none⟩ = some (.bool h.ke) := by simp [World.cell?, hx, hdC]
              have k3 : Y.cell? ⟨w.heap.size, 3, none⟩ = some (.int .i64 (h.dg : Int)) := by simp [World.cell?, hx, hdC]
              exact bodyPost_ret (v := .tuple #[hdV h, .int .i64 (j : Int), .bool true]) (by simp [results, Try.results21, go_sem, hdV, k0, k1, k2, k3]) rfl ⟨by first | (rw [HK.out.1, HK.out.2.1, HE.out]; simp; done) | (have a1 := HK.out.1; have a2 := HK.out.2.1; rw [HE.out] at a1 a2; rw [List.drop_one] at a1 a2; rw [a1, show (_ : Int) + 1 = (j : Int) from (by have := a2; omega)]), hxb⟩
      · obtain rfl : fo = true := by rw [← hfo]; decide
        clear hfo
        go_enter Try.func21, Try.ntmps21
        go_wp2_with fail
        clear hc0
        go_loopw [6] (fun i W => ∃ (j : Nat) (h : Hd), 1 ≤ j ∧ j ≤ n ∧ i = .int .i64 (j : Int) ∧
          Hid ((hdGo ⟨true, false, false, 0⟩ (zs.drop 1)).1 = (hdGo h (zs.drop j)).1 ∧ (hdGo ⟨true, false, false, 0⟩ (zs.drop 1)).2 + 1 = (hdGo h (zs.drop j)).2 + j ∧ room h + j ≤ 3 ∧ RtAt w W h)) (fun i _ => n - (intOf i).toNat)
        case atStart => exact ⟨1, ⟨true, false, false, 0⟩, by omega, by omega, rfl, rfl, rfl, (by decide), new2 _ _ _, ⟨Hd.nil, new1 _ _ _⟩, ((Below.refl _ _).alloc (Nat.le_refl _) _).alloc (by simp) _⟩
        case round =>
          obtain ⟨j, h, hj1, hjn, rfl, HK⟩ := hrel
          obtain ⟨g0, hd0⟩ := HK.out.2.2.2.2.1
          have hh := HK.out.2.2.2.1
          unfold hdC at hh hd0
          have hrm := HK.out.2.2.1
          have hlt0 : w.heap.size < wr.heap.size := by rw [Array.getElem?_eq_some_iff] at hd0; exact hd0.1
          have c0 : wr.cell? ⟨w.heap.size + 1, 0, none⟩ = some (.bool h.fo) := by simp [World.cell?, hh]
          have c1 : wr.cell? ⟨w.heap.size + 1, 1, none⟩ = some (.bool h.st) := by simp [World.cell?, hh]
          have c2 : wr.cell? ⟨w.heap.size + 1, 2, none⟩ = some (.bool h.ke) := by simp [World.cell?, hh]
          have c3 : wr.cell? ⟨w.heap.size + 1, 3, none⟩ = some (.int .i64 (h.dg : Int)) := by simp [World.cell?, hh]
          have z1 : wr.frozen? ⟨w.heap.size + 1, 1, none⟩ = false := by simp [World.frozen?, hh]
          have z2 : wr.frozen? ⟨w.heap.size + 1, 2, none⟩ = false := by simp [World.frozen?, hh]
          have z3 : wr.frozen? ⟨w.heap.size + 1, 3, none⟩ = false := by simp [World.frozen?, hh]
          have y0 : wr.frozen? ⟨w.heap.size, 0, none⟩ = false := by simp [World.frozen?, hd0]
          have y1 : wr.frozen? ⟨w.heap.size, 1, none⟩ = false := by simp [World.frozen?, hd0]
          have y2 : wr.frozen? ⟨w.heap.size, 2, none⟩ = false := by simp [World.frozen?, hd0]
          have y3 : wr.frozen? ⟨w.heap.size, 3, none⟩ = false := by simp [World.frozen?, hd0]
          have e0 : wr.cell? ⟨w.heap.size, 0, none⟩ = some (.bool g0.fo) := by simp [World.cell?, hd0]
          have e1 : wr.cell? ⟨w.heap.size, 1, none⟩ = some (.bool g0.st) := by simp [World.cell?, hd0]
          have e2 : wr.cell? ⟨w.heap.size, 2, none⟩ = some (.bool g0.ke) := by simp [World.cell?, hd0]
          have e3 : wr.cell? ⟨w.heap.size, 3, none⟩ = some (.int .i64 (g0.dg : Int)) := by simp [World.cell?, hd0]
          by_cases hlt : j < n ∧ j < 3
          · obtain ⟨hlt, hl3⟩ := hlt
            have d1 : (j : Int) < (n : Int) := by omega
            have d3 : (j : Int) < 3 := by omega
            have hz := cell_keep HK.out.2.2.2.2.2 (HC.out j (by rw [HL.out]; exact hlt))
            have hzb := HB.out.at_ (k := j) (by rw [HL.out]; exact hlt)
            have hdr : zs.drop j = zs.getD j 0 :: zs.drop (j + 1) := by
              rw [List.drop_eq_getElem_cons (by rw [HL.out]; exact hlt)]
              congr 1
              simp [List.getD, show j < zs.length by rw [HL.out]; exact hlt]
            generalize zs.getD j 0 = z at *
            have HD := Lib.hid hdr
            have HHD := Lib.hid (And.intro hh hd0)
            clear hdr hh
            rcases with_ways h z with ⟨hc, hs, hk, hw⟩ | ⟨hnn, hc1, hc2, hdg, hw⟩ | ⟨hnn, hn2, hw⟩
            · have e1' := hdGo_more h _ z (zs.drop (j + 1)) hw
              rw [← HD.out] at e1'
              have HE := Lib.hid (And.intro e1' (with_room h _ z hw))
              clear e1' hw
              rw [hs] at c1
              rw [hk] at c2
              have HSK := Lib.hid (And.intro hs hk)
              clear hs hk
              rcases hc with rfl | rfl
              · go_wp2_with fail
                go_roundw
                case rel =>
                  refine ⟨j + 1, ⟨h.fo, true, false, h.dg⟩, by omega, by omega, by go_num, ?_, ?_, ?_, set2 HHD.out.1, ⟨g0, ?_⟩, ?_⟩
                  · rw [HK.out.1, HE.out.1]; rfl
                  · rw [HK.out.2.1, HE.out.1]; show _ + 1 + j = _ + (j + 1); rw [Nat.add_right_comm]; rfl
                  · have := HE.out.2; simp at this; omega
                  · exact ((Below.heap_setCell _ _ _ _ (by simp)).trans (Below.heap_setCell _ _ _ _ (by simp))).trans HHD.out.2
                  · exact (HK.out.2.2.2.2.2.setCell (p := ⟨w.heap.size + 1, 1, none⟩) (by simp) _).setCell (p := ⟨w.heap.size + 1, 2, none⟩) (by simp) _
                case measure => simp [intOf]; omega
              · go_wp2_with fail
                go_roundw
                case rel =>
                  refine ⟨j + 1, ⟨h.fo, false, true, h.dg⟩, by omega, by omega, by go_num, ?_, ?_, ?_, set2 HHD.out.1, ⟨g0, ?_⟩, ?_⟩
                  · rw [HK.out.1, HE.out.1]; rfl
                  · rw [HK.out.2.1, HE.out.1]; show _ + 1 + j = _ + (j + 1); rw [Nat.add_right_comm]; rfl
                  · have := HE.out.2; simp at this; omega
                  · exact ((Below.heap_setCell _ _ _ _ (by simp)).trans (Below.heap_setCell _ _ _ _ (by simp))).trans HHD.out.2
                  · exact (HK.out.2.2.2.2.2.setCell (p := ⟨w.heap.size + 1, 1, none⟩) (by simp) _).setCell (p := ⟨w.heap.size + 1, 2, none⟩) (by simp) _
                case measure => simp [intOf]; omega
            · have e1' := hdGo_more h _ z (zs.drop (j + 1)) hw
              rw [← HD.out] at e1'
              have HE := Lib.hid (And.intro e1' (with_room h _ z hw))
              clear e1' hw hnn
              rw [hdg] at c3
              clear hdg
              have f1 : (z == 45) = false := beq_eq_false_iff_ne.2 (by omega)
              have f2 : (z == 43) = false := beq_eq_false_iff_ne.2 (by omega)
              obtain ⟨d, hd⟩ : ∃ d : Nat, (z - 48).toNat = d := ⟨_, rfl⟩
              have HDG : Hid ((d : Int) = z - 48) := by show (d : Int) = z - 48; omega
              rw [hd] at HE
              clear hd
              go_wp2_with fail
              go_roundw
              case rel =>
                refine ⟨j + 1, ⟨h.fo, h.st, h.ke, d⟩, by omega, by omega, by go_num, ?_, ?_, ?_, ?_, ⟨g0, ?_⟩, ?_⟩
                · rw [HK.out.1, HE.out.1]
                · rw [HK.out.2.1, HE.out.1]; omega
                · have := HE.out.2; omega
                · refine (set1 HHD.out.1).trans ?_
                  simp [hdC, HDG.out]
                · exact (Below.heap_setCell _ _ _ _ (by simp)).trans HHD.out.2
                · exact HK.out.2.2.2.2.2.setCell (p := ⟨w.heap.size + 1, 3, none⟩) (by simp) _
              case measure => simp [intOf]; omega
            · have e1' := hdGo_stop h z (zs.drop (j + 1)) hw
              rw [← HD.out] at e1'
              have HE := Lib.hid e1'
              clear e1' hw
              have hways := with_none h.fo h.st h.ke h.dg z hnn hn2
              clear hnn hn2
              rcases hways with ⟨rfl, hs⟩ | ⟨rfl, hs⟩ | ⟨rfl, hs, hk⟩ | ⟨rfl, hs, hk⟩ | ⟨n1, n2, n3⟩ | rfl | ⟨n1, n2, n3, n4, n5⟩ | n3
              · rw [hs] at c1
                have HSK := Lib.hid hs
                clear hs
                go_wp2_with fail
                obtain ⟨Y, hY⟩ : ∃ Y, ((((wr.setCell ⟨w.heap.size, 0, none⟩ (.bool h.fo)).setCell ⟨w.heap.size, 1, none⟩ (.bool true)).setCell ⟨w.heap.size, 2, none⟩ (.bool h.ke)).setCell ⟨w.heap.size, 3, none⟩ (.int .i64 (h.dg : Int))) = Y := ⟨_, rfl⟩
                have hx : Y.heap[w.heap.size]? = some (.cells (hdC h) 41) := by rw [← hY]; refine (set4 hd0).trans ?_; simp [hdC, HSK.out]
                have hxb : Below w.heap.size w Y := by rw [← hY]; exact set4_below HK.out.2.2.2.2.2 (Nat.le_refl _)
                rw [hY]
                clear hY
                have k0 : Y.cell? ⟨w.heap.size, 0, none⟩ = some (.bool h.fo) := by simp [World.cell?, hx, hdC]
                have k1 : Y.cell? ⟨w.heap.size, 1, none⟩ = some (.bool h.st) := by simp [World.cell?, hx, hdC]
                have k2 : Y.cell? ⟨w.heap.size, 2, none⟩ = some (.bool h.ke) := by simp [World.cell?, hx, hdC]
                have k3 : Y.cell? ⟨w.heap.size, 3, none⟩ = some (.int .i64 (h.dg : Int)) := by simp [World.cell?, hx, hdC]
                exact bodyPost_ret (v := .tuple #[hdV h, .int .i64 (j : Int), .bool true]) (by simp [results, Try.results21, go_sem, hdV, k0, k1, k2, k3]) rfl ⟨by first | (rw [HK.out.1, HK.out.2.1, HE.out]; simp; done) | (have a1 := HK.out.1; have a2 := HK.out.2.1; rw [HE.out] at a1 a2; rw [List.drop_one] at a1 a2; rw [a1, show (_ : Int) + 1 = (j : Int) from (by have := a2; omega)]), hxb⟩
              · rw [hs] at c1
                have HSK := Lib.hid hs
                clear hs
                go_wp2_with fail
                obtain ⟨Y, hY⟩ : ∃ Y, ((((wr.setCell ⟨w.heap.size, 0, none⟩ (.bool h.fo)).setCell ⟨w.heap.size, 1, none⟩ (.bool true)).setCell ⟨w.heap.size, 2, none⟩ (.bool h.ke)).setCell ⟨w.heap.size, 3, none⟩ (.int .i64 (h.dg : Int))) = Y := ⟨_, rfl⟩
                have hx : Y.heap[w.heap.size]? = some (.cells (hdC h) 41) := by rw [← hY]; refine (set4 hd0).trans ?_; simp [hdC, HSK.out]
                have hxb : Below w.heap.size w Y := by rw [← hY]; exact set4_below HK.out.2.2.2.2.2 (Nat.le_refl _)
                rw [hY]
                clear hY
                have k0 : Y.cell? ⟨w.heap.size, 0, none⟩ = some (.bool h.fo) := by simp [World.cell?, hx, hdC]
                have k1 : Y.cell? ⟨w.heap.size, 1, none⟩ = some (.bool h.st) := by simp [World.cell?, hx, hdC]
                have k2 : Y.cell? ⟨w.heap.size, 2, none⟩ = some (.bool h.ke) := by simp [World.cell?, hx, hdC]
                have k3 : Y.cell? ⟨w.heap.size, 3, none⟩ = some (.int .i64 (h.dg : Int)) := by simp [World.cell?, hx, hdC]
                exact bodyPost_ret (v := .tuple #[hdV h, .int .i64 (j : Int), .bool true]) (by simp [results, Try.results21, go_sem, hdV, k0, k1, k2, k3]) rfl ⟨by first | (rw [HK.out.1, HK.out.2.1, HE.out]; simp; done) | (have a1 := HK.out.1; have a2 := HK.out.2.1; rw [HE.out] at a1 a2; rw [List.drop_one] at a1 a2; rw [a1, show (_ : Int) + 1 = (j : Int) from (by have := a2; omega)]), hxb⟩
              · rw [hs] at c1
                rw [hk] at c2
                have HSK := Lib.hid (And.intro hs hk)
                clear hs hk
                go_wp2_with fail
                obtain ⟨Y, hY⟩ : ∃ Y, ((((wr.setCell ⟨w.heap.size, 0, none⟩ (.bool h.fo)).setCell ⟨w.heap.size, 1, none⟩ (.bool false)).setCell ⟨w.heap.size, 2, none⟩ (.bool true)).setCell ⟨w.heap.size, 3, none⟩ (.int .i64 (h.dg : Int))) = Y := ⟨_, rfl⟩
                have hx : Y.heap[w.heap.size]? = some (.cells (hdC h) 41) := by rw [← hY]; refine (set4 hd0).trans ?_; simp [hdC, HSK.out.1, HSK.out.2]
                have hxb : Below w.heap.size w Y := by rw [← hY]; exact set4_below HK.out.2.2.2.2.2 (Nat.le_refl _)
                rw [hY]
                clear hY
                have k0 : Y.cell? ⟨w.heap.size, 0, none⟩ = some (.bool h.fo) := by simp [World.cell?, hx, hdC]
                have k1 : Y.cell? ⟨w.heap.size, 1, none⟩ = some (.bool h.st) := by simp [World.cell?, hx, hdC]
                have k2 : Y.cell? ⟨w.heap.size, 2, none⟩ = some (.bool h.ke) := by simp [World.cell?, hx, hdC]
                have k3 : Y.cell? ⟨w.heap.size, 3, none⟩ = some (.int .i64 (h.dg : Int)) := by simp [World.cell?, hx, hdC]
                exact bodyPost_ret (v := .tuple #[hdV h, .int .i64 (j : Int), .bool true]) (by simp [results, Try.results21, go_sem, hdV, k0, k1, k2, k3]) rfl ⟨by first | (rw [HK.out.1, HK.out.2.1, HE.out]; simp; done) | (have a1 := HK.out.1; have a2 := HK.out.2.1; rw [HE.out] at a1 a2; rw [List.drop_one] at a1 a2; rw [a1, show (_ : Int) + 1 = (j : Int) from (by have := a2; omega)]), hxb⟩
              · rw [hs] at c1
                rw [hk] at c2
                have HSK := Lib.hid (And.intro hs hk)
                clear hs hk
                go_wp2_with fail
                obtain ⟨Y, hY⟩ : ∃ Y, ((((wr.setCell ⟨w.heap.size, 0, none⟩ (.bool h.fo)).setCell ⟨w.heap.size, 1, none⟩ (.bool false)).setCell ⟨w.heap.size, 2, none⟩ (.bool true)).setCell ⟨w.heap.size, 3, none⟩ (.int .i64 (h.dg : Int))) = Y := ⟨_, rfl⟩
                have hx : Y.heap[w.heap.size]? = some (.cells (hdC h) 41) := by rw [← hY]; refine (set4 hd0).trans ?_; simp [hdC, HSK.out.1, HSK.out.2]
                have hxb : Below w.heap.size w Y := by rw [← hY]; exact set4_below HK.out.2.2.2.2.2 (Nat.le_refl _)
                rw [hY]
                clear hY
                have k0 : Y.cell? ⟨w.heap.size, 0, none⟩ = some (.bool h.fo) := by simp [World.cell?, hx, hdC]
                have k1 : Y.cell? ⟨w.heap.size, 1, none⟩ = some (.bool h.st) := by simp [World.cell?, hx, hdC]
                have k2 : Y.cell? ⟨w.heap.size, 2, none⟩ = some (.bool h.ke) := by simp [World.cell?, hx, hdC]
                have k3 : Y.cell? ⟨w.heap.size, 3, none⟩ = some (.int .i64 (h.dg : Int)) := by simp [World.cell?, hx, hdC]
                exact bodyPost_ret (v := .tuple #[hdV h, .int .i64 (j : Int), .bool true]) (by simp [results, Try.results21, go_sem, hdV, k0, k1, k2, k3]) rfl ⟨by first | (rw [HK.out.1, HK.out.2.1, HE.out]; simp; done) | (have a1 := HK.out.1; have a2 := HK.out.2.1; rw [HE.out] at a1 a2; rw [List.drop_one] at a1 a2; rw [a1, show (_ : Int) + 1 = (j : Int) from (by have := a2; omega)]), hxb⟩
              · have f1 : (z == 45) = false := beq_eq_false_iff_ne.2 n1
                have f2 : (z == 43) = false := beq_eq_false_iff_ne.2 n2
                have f3 : decide (49 ≤ z) = false := decide_eq_false (by omega)
                clear n1 n2
                go_wp2_with fail
                obtain ⟨Y, hY⟩ : ∃ Y, ((((wr.setCell ⟨w.heap.size, 0, none⟩ (.bool h.fo)).setCell ⟨w.heap.size, 1, none⟩ (.bool h.st)).setCell ⟨w.heap.size, 2, none⟩ (.bool h.ke)).setCell ⟨w.heap.size, 3, none⟩ (.int .i64 (h.dg : Int))) = Y := ⟨_, rfl⟩
                have hx : Y.heap[w.heap.size]? = some (.cells (hdC h) 41) := by rw [← hY]; exact set4 hd0
                have hxb : Below w.heap.size w Y := by rw [← hY]; exact set4_below HK.out.2.2.2.2.2 (Nat.le_refl _)
                rw [hY]
                clear hY
                have k0 : Y.cell? ⟨w.heap.size, 0, none⟩ = some (.bool h.fo) := by simp [World.cell?, hx, hdC]
                have k1 : Y.cell? ⟨w.heap.size, 1, none⟩ = some (.bool h.st) := by simp [World.cell?, hx, hdC]
                have k2 : Y.cell? ⟨w.heap.size, 2, none⟩ = some (.bool h.ke) := by simp [World.cell?, hx, hdC]
                have k3 : Y.cell? ⟨w.heap.size, 3, none⟩ = some (.int .i64 (h.dg : Int)) := by simp [World.cell?, hx, hdC]
                exact bodyPost_ret (v := .tuple #[hdV h, .int .i64 (j : Int), .bool true]) (by simp [results, Try.results21, go_sem, hdV, k0, k1, k2, k3]) rfl ⟨by first | (rw [HK.out.1, HK.out.2.1, HE.out]; simp; done) | (have a1 := HK.out.1; have a2 := HK.out.2.1; rw [HE.out] at a1 a2; rw [List.drop_one] at a1 a2; rw [a1, show (_ : Int) + 1 = (j : Int) from (by have := a2; omega)]), hxb⟩
              · skip
                go_wp2_with fail
                obtain ⟨Y, hY⟩ : ∃ Y, ((((wr.setCell ⟨w.heap.size, 0, none⟩ (.bool h.fo)).setCell ⟨w.heap.size, 1, none⟩ (.bool h.st)).setCell ⟨w.heap.size, 2, none⟩ (.bool h.ke)).setCell ⟨w.heap.size, 3, none⟩ (.int .i64 (h.dg : Int))) = Y := ⟨_, rfl⟩
                have hx : Y.heap[w.heap.size]? = some (.cells (hdC h) 41) := by rw [← hY]; exact set4 hd0
                have hxb : Below w.heap.size w Y := by rw [← hY]; exact set4_below HK.out.2.2.2.2.2 (Nat.le_refl _)
                rw [hY]
                clear hY
                have k0 : Y.cell? ⟨w.heap.size, 0, none⟩ = some (.bool h.fo) := by simp [World.cell?, hx, hdC]
                have k1 : Y.cell? ⟨w.heap.size, 1, none⟩ = some (.bool h.st) := by simp [World.cell?, hx, hdC]
                have k2 : Y.cell? ⟨w.heap.size, 2, none⟩ = some (.bool h.ke) := by simp [World.cell?, hx, hdC]
                have k3 : Y.cell? ⟨w.heap.size, 3, none⟩ = some (.int .i64 (h.dg : Int)) := by simp [World.cell?, hx, hdC]
                exact bodyPost_ret (v := .tuple #[hdV h, .int .i64 (j : Int), .bool true]) (by simp [results, Try.results21, go_sem, hdV, k0, k1, k2, k3]) rfl ⟨by first | (rw [HK.out.1, HK.out.2.1, HE.out]; simp; done) | (have a1 := HK.out.1; have a2 := HK.out.2.1; rw [HE.out] at a1 a2; rw [List.drop_one] at a1 a2; rw [a1, show (_ : Int) + 1 = (j : Int) from (by have := a2; omega)]), hxb⟩
              · have f1 : (z == 45) = false := beq_eq_false_iff_ne.2 n1
                have f2 : (z == 43) = false := beq_eq_false_iff_ne.2 n2
                have f4 : ((h.dg : Int) == 0) = false := beq_eq_false_iff_ne.2 (by omega)
                clear n1 n2 n5
                go_wp2_with fail
                obtain ⟨Y, hY⟩ : ∃ Y, ((((wr.setCell ⟨w.heap.size, 0, none⟩ (.bool h.fo)).setCell ⟨w.heap.size, 1, none⟩ (.bool h.st)).setCell ⟨w.heap.size, 2, none⟩ (.bool h.ke)).setCell ⟨w.heap.size, 3, none⟩ (.int .i64 (h.dg : Int))) = Y := ⟨_, rfl⟩
                have hx : Y.heap[w.heap.size]? = some (.cells (hdC h) 41) := by rw [← hY]; exact set4 hd0
                have hxb : Below w.heap.size w Y := by rw [← hY]; exact set4_below HK.out.2.2.2.2.2 (Nat.le_refl _)
                rw [hY]
                clear hY
                have k0 : Y.cell? ⟨w.heap.size, 0, none⟩ = some (.bool h.fo) := by simp [World.cell?, hx, hdC]
                have k1 : Y.cell? ⟨w.heap.size, 1, none⟩ = some (.bool h.st) := by simp [World.cell?, hx, hdC]
                have k2 : Y.cell? ⟨w.heap.size, 2, none⟩ = some (.bool h.ke) := by simp [World.cell?, hx, hdC]
                have k3 : Y.cell? ⟨w.heap.size, 3, none⟩ = some (.int .i64 (h.dg : Int)) := by simp [World.cell?, hx, hdC]
                exact bodyPost_ret (v := .tuple #[hdV h, .int .i64 (j : Int), .bool true]) (by simp [results, Try.results21, go_sem, hdV, k0, k1, k2, k3]) rfl ⟨by first | (rw [HK.out.1, HK.out.2.1, HE.out]; simp; done) | (have a1 := HK.out.1; have a2 := HK.out.2.1; rw [HE.out] at a1 a2; rw [List.drop_one] at a1 a2; rw [a1, show (_ : Int) + 1 = (j : Int) from (by have := a2; omega)]), hxb⟩
              · have f1 : (z == 45) = false := beq_eq_false_iff_ne.2 (by omega)
                have f2 : (z == 43) = false := beq_eq_false_iff_ne.2 (by omega)
                have f3 : decide (z ≤ 57) = false := decide_eq_false (by omega)
                have g1 : 49 ≤ z := by omega
                go_wp2_with fail
                obtain ⟨Y, hY⟩ : ∃ Y, ((((wr.setCell ⟨w.heap.size, 0, none⟩ (.bool h.fo)).setCell ⟨w.heap.size, 1, none⟩ (.bool h.st)).setCell ⟨w.heap.size, 2, none⟩ (.bool h.ke)).setCell ⟨w.heap.size, 3, none⟩ (.int .i64 (h.dg : Int))) = Y := ⟨_, rfl⟩
                have hx : Y.heap[w.heap.size]? = some (.cells (hdC h) 41) := by rw [← hY]; exact set4 hd0
                have hxb : Below w.heap.size w Y := by rw [← hY]; exact set4_below HK.out.2.2.2.2.2 (Nat.le_refl _)
                rw [hY]
                clear hY
                have k0 : Y.cell? ⟨w.heap.size, 0, none⟩ = some (.bool h.fo) := by simp [World.cell?, hx, hdC]
                have k1 : Y.cell? ⟨w.heap.size, 1, none⟩ = some (.bool h.st) := by simp [World.cell?, hx, hdC]
                have k2 : Y.cell? ⟨w.heap.size, 2, none⟩ = some (.bool h.ke) := by simp [World.cell?, hx, hdC]
                have k3 : Y.cell? ⟨w.heap.size, 3, none⟩ = some (.int .i64 (h.dg : Int)) := by simp [World.cell?, hx, hdC]
                exact bodyPost_ret (v := .tuple #[hdV h, .int .i64 (j : Int), .bool true]) (by simp [results, Try.results21, go_sem, hdV, k0, k1, k2, k3]) rfl ⟨by first | (rw [HK.out.1, HK.out.2.1, HE.out]; simp; done) | (have a1 := HK.out.1; have a2 := HK.out.2.1; rw [HE.out] at a1 a2; rw [List.drop_one] at a1 a2; rw [a1, show (_ : Int) + 1 = (j : Int) from (by have := a2; omega)]), hxb⟩
          · have hst : hdGo h (zs.drop j) = (h, 0) := by
              by_cases hjn' : j < n
              · have hr0 : room h = 0 := by omega
                cases hdr : zs.drop j with
                | nil => rfl
                | cons x t => exact hdGo_stop h x t (with_full h x hr0)
              · rw [List.drop_eq_nil_of_le (by rw [HL.out]; omega)]; rfl
            have HE := Lib.hid hst
            clear hst
            by_cases hjn' : j < n
            · have d1 : (j : Int) < (n : Int) := by omega
              have d3 : decide ((j : Int) < 3) = false := decide_eq_false (by omega)
              have d3' : ¬ (j : Int) < 3 := by omega
              clear hh
              go_wp2_with fail
              obtain ⟨Y, hY⟩ : ∃ Y, ((((wr.setCell ⟨w.heap.size, 0, none⟩ (.bool h.fo)).setCell ⟨w.heap.size, 1, none⟩ (.bool h.st)).setCell ⟨w.heap.size, 2, none⟩ (.bool h.ke)).setCell ⟨w.heap.size, 3, none⟩ (.int .i64 (h.dg : Int))) = Y := ⟨_, rfl⟩
              have hx : Y.heap[w.heap.size]? = some (.cells (hdC h) 41) := by rw [← hY]; exact set4 hd0
              have hxb : Below w.heap.size w Y := by rw [← hY]; exact set4_below HK.out.2.2.2.2.2 (Nat.le_refl _)
              rw [hY]
              clear hY
              have k0 : Y.cell? ⟨w.heap.size, 0, none⟩ = some (.bool h.fo) := by simp [World.cell?, hx, hdC]
              have k1 : Y.cell? ⟨w.heap.size, 1, none⟩ = some (.bool h.st) := by simp [World.cell?, hx, hdC]
              have k2 : Y.cell? ⟨w.heap.size, 2, none⟩ = some (.bool h.ke) := by simp [World.cell?, hx, hdC]
              have k3 : Y.cell? ⟨w.heap.size, 3, none⟩ = some (.int .i64 (h.dg : Int)) := by simp [World.cell?, hx, hdC]
              exact bodyPost_ret (v := .tuple #[hdV h, .int .i64 (j : Int), .bool true]) (by simp [results, Try.results21, go_sem, hdV, k0, k1, k2, k3]) rfl ⟨by first | (rw [HK.out.1, HK.out.2.1, HE.out]; simp; done) | (have a1 := HK.out.1; have a2 := HK.out.2.1; rw [HE.out] at a1 a2; rw [List.drop_one] at a1 a2; rw [a1, show (_ : Int) + 1 = (j : Int) from (by have := a2; omega)]), hxb⟩
            · have d1 : decide (j < n) = false := decide_eq_false hjn'
              clear hh
              go_wp2_with fail
              obtain ⟨Y, hY⟩ : ∃ Y, ((((wr.setCell ⟨w.heap.size, 0, none⟩ (.bool h.fo)).setCell ⟨w.heap.size, 1, none⟩ (.bool h.st)).setCell ⟨w.heap.size, 2, none⟩ (.bool h.ke)).setCell ⟨w.heap.size, 3, none⟩ (.int .i64 (h.dg : Int))) = Y := ⟨_, rfl⟩
              have hx : Y.heap[w.heap.size]? = some (.cells (hdC h) 41) := by rw [← hY]; exact set4 hd0
              have hxb : Below w.heap.size w Y := by rw [← hY]; exact set4_below HK.out.2.2.2.2.2 (Nat.le_refl _)
              rw [hY]
              clear hY
              have k0 : Y.cell? ⟨w.heap.size, 0, none⟩ = some (.bool h.fo) := by simp [World.cell?, hx, hdC]
              have k1 : Y.cell? ⟨w.heap.size, 1, none⟩ = some (.bool h.st) := by simp [World.cell?, hx, hdC]
              have k2 : Y.cell? ⟨w.heap.size, 2, none⟩ = some (.bool h.ke) := by simp [World.cell?, hx, hdC]
              have k3 : Y.cell? ⟨w.heap.size, 3, none⟩ = some (.int .i64 (h.dg : Int)) := by simp [World.cell?, hx, hdC]
              exact bodyPost_ret (v := .tuple #[hdV h, .int .i64 (j : Int), .bool true]) (by simp [results, Try.results21, go_sem, hdV, k0, k1, k2, k3]) rfl ⟨by first | (rw [HK.out.1, HK.out.2.1, HE.out]; simp; done) | (have a1 := HK.out.1; have a2 := HK.out.2.1; rw [HE.out] at a1 a2; rw [List.drop_one] at a1 a2; rw [a1, show (_ : Int) + 1 = (j : Int) from (by have := a2; omega)]), hxb⟩
    · have e1 : zs.getD 0 0 ≠ 124 := fun h => h1 (.inl h)
      have e2 : zs.getD 0 0 ≠ 62 := fun h => h1 (.inr h)
      rw [tkH_none zs e1 e2]
      generalize zs.getD 0 0 = z at *
      have f1 : (z != 124) = true := by simpa using e1
      have f2 : (z != 62) = true := by simpa using e2
      clear h1 hc
      go_enter Try.func21, Try.ntmps21
      go_wp2
      exact bodyPost_ret (v := .tuple #[hdV Hd.nil, .int .i64 0, .bool false]) (by simp [results, Try.results21, go_sem, hdV, Hd.nil]) rfl ⟨by simp, (Below.refl _ _).alloc (Nat.le_refl _) _⟩
end Go.Proofs.Ytodnfdkcmhiljaa
