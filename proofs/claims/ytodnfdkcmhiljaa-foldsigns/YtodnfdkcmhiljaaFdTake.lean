/- fold.TakeHeader: the header at the beginning of bytes. -/
import Derived.Test.YtodnfdkcmhiljaaFdWith
import Derived.Deep.RegionHeld3
namespace Go.Proofs.Ytodnfdkcmhiljaa
open Go.RowKit
set_option linter.unusedVariables false

/-- A header's cells. -/
def hdC (h : Hd) : Array Value := #[.bool h.fo, .bool h.st, .bool h.ke, .int .i64 (h.dg : Int)]
def tkH (zs : List Int) : Hd × Nat × Bool := match takeH zs with | some (h, k) => (h, k, true) | none => (Hd.nil, 0, false)
/-- What TakeHeader hands back. -/
def TkP (zs : List Int) (w : World) (e : Ending) (w' : World) : Prop := e = .returned (.tuple #[hdV (tkH zs).1, .int .i64 ((tkH zs).2.1 : Int), .bool (tkH zs).2.2]) ∧ Below w.heap.size w w'
theorem tkH_none (zs : List Int) (h : zs.getD 0 0 ≠ 124) (h' : zs.getD 0 0 ≠ 62) : tkH zs = (Hd.nil, 0, false) := by
  unfold tkH takeH
  rw [if_neg (by rintro (g | g); exact h g; exact h' g)]
theorem tkH_some (zs : List Int) (h : zs.getD 0 0 = 124 ∨ zs.getD 0 0 = 62) : tkH zs = ((hdGo ⟨decide (zs.getD 0 0 = 62), false, false, 0⟩ (zs.drop 1)).1, (hdGo ⟨decide (zs.getD 0 0 = 62), false, false, 0⟩ (zs.drop 1)).2 + 1, true) := by
  unfold tkH takeH
  rw [if_pos h]

theorem with_spelt (h g : Hd) (ok : Bool) (c : Int) (h0 : 0 ≤ c) (h1 : c < 256) (hw : withR h c = (g, ok)) (w : World) :
    Calls Try.prog 27 #[.agg #[.bool h.fo, .bool h.st, .bool h.ke, .int .i64 (h.dg : Int)], .int .u8 c] w fun e w' => e = .returned (.tuple #[.agg #[.bool g.fo, .bool g.st, .bool g.ke, .int .i64 (g.dg : Int)], .bool ok]) ∧ Below w.heap.size w w' := by
  have := with_any h c h0 h1 w
  rw [hw] at this
  exact this
/-- All four cells of a header stored anew. -/
theorem set4 {W : World} {g : Nat} {x0 x1 x2 x3 y0 y1 y2 y3 : Value} {T : TypeId} (h : W.heap[g]? = some (.cells #[x0, x1, x2, x3] T)) :
    ((((W.setCell ⟨g, 0, none⟩ y0).setCell ⟨g, 1, none⟩ y1).setCell ⟨g, 2, none⟩ y2).setCell ⟨g, 3, none⟩ y3).heap[g]? = some (.cells #[y0, y1, y2, y3] T) := by
  simp [World.setCell, Array.getElem?_modify, h]
theorem set4_size (W : World) (g : Nat) (y0 y1 y2 y3 : Value) : ((((W.setCell ⟨g, 0, none⟩ y0).setCell ⟨g, 1, none⟩ y1).setCell ⟨g, 2, none⟩ y2).setCell ⟨g, 3, none⟩ y3).heap.size = W.heap.size := by simp [World.setCell]
theorem set4_alloc {W : World} {g : Nat} {x0 x1 x2 x3 y0 y1 y2 y3 : Value} {T : TypeId} (h : W.heap[g]? = some (.cells #[x0, x1, x2, x3] T)) (hg : g < W.heap.size) (o : Obj) :
    (((((W.setCell ⟨g, 0, none⟩ y0).setCell ⟨g, 1, none⟩ y1).setCell ⟨g, 2, none⟩ y2).setCell ⟨g, 3, none⟩ y3).alloc o).heap[g]? = some (.cells #[y0, y1, y2, y3] T) :=
  (Below.heap_alloc _ _ _ (by rw [set4_size]; exact hg)).trans (set4 h)
theorem set4_below {w W : World} {g : Nat} {y0 y1 y2 y3 : Value} (h : Below w.heap.size w W) (hg : w.heap.size ≤ g) :
    Below w.heap.size w ((((W.setCell ⟨g, 0, none⟩ y0).setCell ⟨g, 1, none⟩ y1).setCell ⟨g, 2, none⟩ y2).setCell ⟨g, 3, none⟩ y3) :=
  (((h.setCell (p := ⟨g, 0, none⟩) hg _).setCell (p := ⟨g, 1, none⟩) hg _).setCell (p := ⟨g, 2, none⟩) hg _).setCell (p := ⟨g, 3, none⟩) hg _

set_option maxHeartbeats 4000000 in
set_option maxRecDepth 100000 in
theorem takeHeader_any (A : Option Addr) (n c : Nat) (zs : List Int) (w : World) (hl : zs.length = n) (hnc : n ≤ c) (hm : c ≤ 9223372036854775807) (hb : Byte zs) (hr : RdB w A zs) :
    Calls Try.prog 14 #[.slice A n c] w (TkP zs w) := by
  have HR := Lib.hid hr
  have HB := Lib.hid hb
  have HL := Lib.hid hl
  clear hr hb hl
  unfold TkP
  by_cases h0 : n = 0
  · have hz : zs = [] := List.eq_nil_of_length_eq_zero (by rw [HL.out]; exact h0)
    rw [tkH_none zs (by rw [hz]; decide) (by rw [hz]; decide)]
    subst h0
    go_enter Try.func14, Try.ntmps14
    go_wp2
    exact bodyPost_ret (v := .tuple #[hdV Hd.nil, .int .i64 0, .bool false]) (by simp [results, Try.results14, go_sem, hdV, Hd.nil]) rfl ⟨by simp, (Below.refl _ _).alloc (Nat.le_refl _) _⟩
  · obtain ⟨b, off, rfl, hc⟩ := HR.out.addr (by rw [HL.out]; omega)
    have hc0 := hc 0 (by rw [HL.out]; omega)
    rw [Nat.add_zero] at hc0
    have hbl : b < w.heap.size := World.block_lt_of_cell? _ _ hc0
    have hn0 : ((n : Int) == 0) = false := beq_eq_false_iff_ne.2 (by omega)
    by_cases h1 : zs.getD 0 0 = 124 ∨ zs.getD 0 0 = 62
    · rw [tkH_some zs h1]
      have HC := Lib.hid hc
      obtain ⟨z, hz⟩ : ∃ z, zs.getD 0 0 = z := ⟨_, rfl⟩
      rw [hz] at h1 hc0
      simp only [hz]
      clear hz hc
      obtain ⟨fo, hfo⟩ : ∃ fo, decide (z = 62) = fo := ⟨_, rfl⟩
      rw [hfo]
      rcases h1 with rfl | rfl
      · obtain rfl : fo = false := by rw [← hfo]; decide
        clear hfo
        go_enter Try.func14, Try.ntmps14
        go_wp2_with fail
        clear hc0
        go_loopw [3] (fun i W => ∃ (j : Nat) (h : Hd), 1 ≤ j ∧ j ≤ n ∧ i = .int .i64 (j : Int) ∧
          Hid ((hdGo ⟨false, false, false, 0⟩ (zs.drop 1)).1 = (hdGo h (zs.drop j)).1 ∧ (hdGo ⟨false, false, false, 0⟩ (zs.drop 1)).2 + 1 = (hdGo h (zs.drop j)).2 + j ∧ W.heap[w.heap.size]? = some (.cells (hdC h) 27) ∧ Below w.heap.size w W)) (fun i _ => n - (intOf i).toNat)
        case atStart => exact ⟨1, ⟨false, false, false, 0⟩, by omega, by omega, rfl, rfl, rfl, heap_alloc_new w _, (Below.refl _ _).alloc (Nat.le_refl _) _⟩
        case round =>
          obtain ⟨j, h, hj1, hjn, rfl, HK⟩ := hrel
          have hblk := HK.out.2.2.1
          unfold hdC at hblk
          have hlt0 : w.heap.size < wr.heap.size := by rw [Array.getElem?_eq_some_iff] at hblk; exact hblk.1
          have c0 : wr.cell? ⟨w.heap.size, 0, none⟩ = some (.bool h.fo) := by simp [World.cell?, hblk]
          have c1 : wr.cell? ⟨w.heap.size, 1, none⟩ = some (.bool h.st) := by simp [World.cell?, hblk]
          have c2 : wr.cell? ⟨w.heap.size, 2, none⟩ = some (.bool h.ke) := by simp [World.cell?, hblk]
          have c3 : wr.cell? ⟨w.heap.size, 3, none⟩ = some (.int .i64 (h.dg : Int)) := by simp [World.cell?, hblk]
          have z0 : wr.frozen? ⟨w.heap.size, 0, none⟩ = false := by simp [World.frozen?, hblk]
          have z1 : wr.frozen? ⟨w.heap.size, 1, none⟩ = false := by simp [World.frozen?, hblk]
          have z2 : wr.frozen? ⟨w.heap.size, 2, none⟩ = false := by simp [World.frozen?, hblk]
          have z3 : wr.frozen? ⟨w.heap.size, 3, none⟩ = false := by simp [World.frozen?, hblk]
          clear hblk
          by_cases hlt : j < n
          · have d1 : (j : Int) < (n : Int) := by omega
            have hz := cell_keep HK.out.2.2.2 (HC.out j (by rw [HL.out]; exact hlt))
            have hzb := HB.out.at_ (k := j) (by rw [HL.out]; exact hlt)
            have hdr : zs.drop j = zs.getD j 0 :: zs.drop (j + 1) := by
              rw [List.drop_eq_getElem_cons (by rw [HL.out]; exact hlt)]
              congr 1
              simp [List.getD, show j < zs.length by rw [HL.out]; exact hlt]
            generalize zs.getD j 0 = z at *
            have HD := Lib.hid hdr
            clear hdr
            clear z0 z1 z2 z3
            obtain ⟨g, ok, hw⟩ : ∃ g ok, withR h z = (g, ok) := ⟨_, _, rfl⟩
            have HW := Lib.hid hw
            clear hw
            have hlt1 : w.heap.size < wr.heap.size := hlt0
            go_wp2_with fail
            have KEEP : Hid (∀ w', Below wr.heap.size wr w' → w'.cell? ⟨w.heap.size, 0, none⟩ = some (.bool h.fo) ∧ w'.cell? ⟨w.heap.size, 1, none⟩ = some (.bool h.st) ∧ w'.cell? ⟨w.heap.size, 2, none⟩ = some (.bool h.ke) ∧ w'.cell? ⟨w.heap.size, 3, none⟩ = some (.int .i64 (h.dg : Int)) ∧ w'.cell? ⟨b, off + j, none⟩ = some (.int .u8 z) ∧ Below wr.heap.size wr w') :=
              fun w' hw => ⟨cell_keep hw c0, cell_keep hw c1, cell_keep hw c2, cell_keep hw c3, cell_keep hw hz, hw⟩
            go_region_held3 (fun w' => w'.cell? ⟨w.heap.size, 0, none⟩ = some (.bool h.fo) ∧ w'.cell? ⟨w.heap.size, 1, none⟩ = some (.bool h.st) ∧ w'.cell? ⟨w.heap.size, 2, none⟩ = some (.bool h.ke) ∧ w'.cell? ⟨w.heap.size, 3, none⟩ = some (.int .i64 (h.dg : Int)) ∧ w'.cell? ⟨b, off + j, none⟩ = some (.int .u8 z) ∧ Below wr.heap.size wr w')
              (first
                | exact KEEP.out _ (Below.refl _ _)
                | exact KEEP.out _ (Below.refl _ _).drew
                | exact KEEP.out _ ((Below.refl _ _).drew.alloc (Nat.le_refl _) _)
                | exact KEEP.out _ HQ1.out
                | exact KEEP.out _ (HQ1.out.alloc HQ1.out.size _)
                | exact KEEP.out _ (((Below.refl _ _).alloc (Nat.le_refl _) _).drew)
                | exact KEEP.out _ ((((HQ1.out.setCell (p := ⟨wr.heap.size, 0, none⟩) (Nat.le_refl _) _).setCell (p := ⟨wr.heap.size, 1, none⟩) (Nat.le_refl _) _).setCell (p := ⟨wr.heap.size, 2, none⟩) (Nat.le_refl _) _).setCell (p := ⟨wr.heap.size, 3, none⟩) (Nat.le_refl _) _))
              (first
                | (go_at_call 27; refine (with_spelt h g ok z hzb.1 hzb.2 HW.out wr.drew).mono ?_; rintro e W1 ⟨rfl, hb⟩; have HQ1 := Lib.hid (below_step ((Below.refl _ _).drew) hb); clear hb)
                | (go_at_call 27; refine (with_spelt h g ok z hzb.1 hzb.2 HW.out (wr.alloc (.cells #[.bool false, .bool false, .bool false, .int .i64 0] 27)).drew).mono ?_; rintro e W1 ⟨rfl, hb⟩; have HQ1 := Lib.hid (below_step (((Below.refl _ _).alloc (Nat.le_refl _) _).drew) hb); have hn : W1.heap[wr.heap.size]? = some (.cells #[.bool false, .bool false, .bool false, .int .i64 0] 27) := (hb.block wr.heap.size (by simp)).trans (heap_alloc_new wr _); have q0 : W1.frozen? ⟨wr.heap.size, 0, none⟩ = false := (by simp [World.frozen?, hn]); have q1 : W1.frozen? ⟨wr.heap.size, 1, none⟩ = false := (by simp [World.frozen?, hn]); have q2 : W1.frozen? ⟨wr.heap.size, 2, none⟩ = false := (by simp [World.frozen?, hn]); have q3 : W1.frozen? ⟨wr.heap.size, 3, none⟩ = false := (by simp [World.frozen?, hn]); have r0 : W1.cell? ⟨wr.heap.size, 0, none⟩ = some (.bool false) := (by simp [World.cell?, hn]); have r1 : W1.cell? ⟨wr.heap.size, 1, none⟩ = some (.bool false) := (by simp [World.cell?, hn]); have r2 : W1.cell? ⟨wr.heap.size, 2, none⟩ = some (.bool false) := (by simp [World.cell?, hn]); have r3 : W1.cell? ⟨wr.heap.size, 3, none⟩ = some (.int .i64 0) := (by simp [World.cell?, hn]); have HN := Lib.hid hn; clear hb hn))
            · obtain ⟨P, hP⟩ : ∃ P, W1.heap.size = P := ⟨_, rfl⟩
              obtain ⟨X, hX⟩ : ∃ X, W1.alloc (.cells #[.bool g.fo, .bool g.st, .bool g.ke, .int .i64 (g.dg : Int)] 27) = X := ⟨_, rfl⟩
              have hx : X.heap[P]? = some (.cells #[.bool g.fo, .bool g.st, .bool g.ke, .int .i64 (g.dg : Int)] 27) := by rw [← hX, ← hP]; exact heap_alloc_new _ _
              have hxb : Below wr.heap.size wr X := by rw [← hX]; exact HQ1.out.alloc HQ1.out.size _
              have hPw : w.heap.size < P := by rw [← hP]; exact Nat.lt_of_lt_of_le hlt1 HQ1.out.size
              rw [hP]
              rw [hX]
              have hlX : w.heap.size < X.heap.size := Nat.lt_of_lt_of_le hlt1 hxb.size
              have hbX := HK.out.2.2.2.trans (hxb.mono HK.out.2.2.2.size)
              have hh : X.heap[w.heap.size]? = some (.cells (hdC h) 27) := (hxb.block _ hlt1).trans HK.out.2.2.1
              clear hX hxb
              have k0 : X.cell? ⟨w.heap.size, 0, none⟩ = some (.bool h.fo) := by simp [World.cell?, hh, hdC]
              have k1 : X.cell? ⟨w.heap.size, 1, none⟩ = some (.bool h.st) := by simp [World.cell?, hh, hdC]
              have k2 : X.cell? ⟨w.heap.size, 2, none⟩ = some (.bool h.ke) := by simp [World.cell?, hh, hdC]
              have k3 : X.cell? ⟨w.heap.size, 3, none⟩ = some (.int .i64 (h.dg : Int)) := by simp [World.cell?, hh, hdC]
              have y0 : X.frozen? ⟨w.heap.size, 0, none⟩ = false := by simp [World.frozen?, hh]
              have y1 : X.frozen? ⟨w.heap.size, 1, none⟩ = false := by simp [World.frozen?, hh]
              have y2 : X.frozen? ⟨w.heap.size, 2, none⟩ = false := by simp [World.frozen?, hh]
              have y3 : X.frozen? ⟨w.heap.size, 3, none⟩ = false := by simp [World.frozen?, hh]
              have m0 : X.cell? ⟨P, 0, none⟩ = some (.bool g.fo) := by simp [World.cell?, hx]
              have m1 : X.cell? ⟨P, 1, none⟩ = some (.bool g.st) := by simp [World.cell?, hx]
              have m2 : X.cell? ⟨P, 2, none⟩ = some (.bool g.ke) := by simp [World.cell?, hx]
              have m3 : X.cell? ⟨P, 3, none⟩ = some (.int .i64 (g.dg : Int)) := by simp [World.cell?, hx]
              have HX := Lib.hid (And.intro hh hbX)
              clear hh hbX hx hP c0 c1 c2 c3 hz KEEP HQ1
              have hw := HW.out
              unfold withR at hw
              cases hwf : withF h z with
              | none =>
                rw [hwf] at hw
                injection hw with hg hok
                subst hg hok
                have e1 := hdGo_stop h z (zs.drop (j + 1)) hwf
                rw [← HD.out] at e1
                have HE := Lib.hid e1
                clear e1 hwf HW
                go_wp2_with fail
                obtain ⟨Y, hY⟩ : ∃ Y, ((((X.setCell ⟨w.heap.size, 0, none⟩ (.bool h.fo)).setCell ⟨w.heap.size, 1, none⟩ (.bool h.st)).setCell ⟨w.heap.size, 2, none⟩ (.bool h.ke)).setCell ⟨w.heap.size, 3, none⟩ (.int .i64 (h.dg : Int))) = Y := ⟨_, rfl⟩
                have hx : Y.heap[w.heap.size]? = some (.cells (hdC h) 27) := by rw [← hY]; exact set4 HX.out.1
                have hxb : Below w.heap.size w Y := by rw [← hY]; exact set4_below HX.out.2 (Nat.le_refl _)
                rw [hY]
                clear hY k0 k1 k2 k3
                have k0 : Y.cell? ⟨w.heap.size, 0, none⟩ = some (.bool h.fo) := by simp [World.cell?, hx, hdC]
                have k1 : Y.cell? ⟨w.heap.size, 1, none⟩ = some (.bool h.st) := by simp [World.cell?, hx, hdC]
                have k2 : Y.cell? ⟨w.heap.size, 2, none⟩ = some (.bool h.ke) := by simp [World.cell?, hx, hdC]
                have k3 : Y.cell? ⟨w.heap.size, 3, none⟩ = some (.int .i64 (h.dg : Int)) := by simp [World.cell?, hx, hdC]
                exact bodyPost_ret (v := .tuple #[hdV h, .int .i64 (j : Int), .bool true]) (by simp [results, Try.results14, go_sem, hdV, k0, k1, k2, k3]) rfl ⟨by rw [HK.out.1, HK.out.2.1, HE.out, Nat.zero_add], hxb⟩
              | some g2 =>
                rw [hwf] at hw
                injection hw with hg hok
                subst hg hok
                have e1 := hdGo_more h g2 z (zs.drop (j + 1)) hwf
                rw [← HD.out] at e1
                have HE := Lib.hid e1
                clear e1 hwf HW
                go_wp2_with fail
                go_roundw
                case rel =>
                  refine ⟨j + 1, g2, by omega, by omega, by go_num, ?_, ?_, set4 HX.out.1, set4_below HX.out.2 (Nat.le_refl _)⟩
                  · rw [HK.out.1, HE.out]
                  · rw [HK.out.2.1, HE.out]; omega
                case measure => simp [intOf]; omega
            · obtain ⟨P, hP⟩ : ∃ P, wr.heap.size = P := ⟨_, rfl⟩
              obtain ⟨X, hX⟩ : ∃ X, ((((W1.setCell ⟨wr.heap.size, 0, none⟩ (.bool g.fo)).setCell ⟨wr.heap.size, 1, none⟩ (.bool g.st)).setCell ⟨wr.heap.size, 2, none⟩ (.bool g.ke)).setCell ⟨wr.heap.size, 3, none⟩ (.int .i64 (g.dg : Int))) = X := ⟨_, rfl⟩
              have hx : X.heap[P]? = some (.cells #[.bool g.fo, .bool g.st, .bool g.ke, .int .i64 (g.dg : Int)] 27) := by rw [← hX, ← hP]; exact set4 HN.out
              have hxb : Below wr.heap.size wr X := by rw [← hX]; exact (((HQ1.out.setCell (p := ⟨wr.heap.size, 0, none⟩) (Nat.le_refl _) _).setCell (p := ⟨wr.heap.size, 1, none⟩) (Nat.le_refl _) _).setCell (p := ⟨wr.heap.size, 2, none⟩) (Nat.le_refl _) _).setCell (p := ⟨wr.heap.size, 3, none⟩) (Nat.le_refl _) _
              have hPw : w.heap.size < P := by rw [← hP]; exact hlt1
              clear q0 q1 q2 q3 r0 r1 r2 r3 HN
              rw [hX, hP]
              have hlX : w.heap.size < X.heap.size := Nat.lt_of_lt_of_le hlt1 hxb.size
              have hbX := HK.out.2.2.2.trans (hxb.mono HK.out.2.2.2.size)
              have hh : X.heap[w.heap.size]? = some (.cells (hdC h) 27) := (hxb.block _ hlt1).trans HK.out.2.2.1
              clear hX hxb
              have k0 : X.cell? ⟨w.heap.size, 0, none⟩ = some (.bool h.fo) := by simp [World.cell?, hh, hdC]
              have k1 : X.cell? ⟨w.heap.size, 1, none⟩ = some (.bool h.st) := by simp [World.cell?, hh, hdC]
              have k2 : X.cell? ⟨w.heap.size, 2, none⟩ = some (.bool h.ke) := by simp [World.cell?, hh, hdC]
              have k3 : X.cell? ⟨w.heap.size, 3, none⟩ = some (.int .i64 (h.dg : Int)) := by simp [World.cell?, hh, hdC]
              have y0 : X.frozen? ⟨w.heap.size, 0, none⟩ = false := by simp [World.frozen?, hh]
              have y1 : X.frozen? ⟨w.heap.size, 1, none⟩ = false := by simp [World.frozen?, hh]
              have y2 : X.frozen? ⟨w.heap.size, 2, none⟩ = false := by simp [World.frozen?, hh]
              have y3 : X.frozen? ⟨w.heap.size, 3, none⟩ = false := by simp [World.frozen?, hh]
              have m0 : X.cell? ⟨P, 0, none⟩ = some (.bool g.fo) := by simp [World.cell?, hx]
              have m1 : X.cell? ⟨P, 1, none⟩ = some (.bool g.st) := by simp [World.cell?, hx]
              have m2 : X.cell? ⟨P, 2, none⟩ = some (.bool g.ke) := by simp [World.cell?, hx]
              have m3 : X.cell? ⟨P, 3, none⟩ = some (.int .i64 (g.dg : Int)) := by simp [World.cell?, hx]
              have HX := Lib.hid (And.intro hh hbX)
              clear hh hbX hx hP c0 c1 c2 c3 hz KEEP HQ1
              have hw := HW.out
              unfold withR at hw
              cases hwf : withF h z with
              | none =>
                rw [hwf] at hw
                injection hw with hg hok
                subst hg hok
                have e1 := hdGo_stop h z (zs.drop (j + 1)) hwf
                rw [← HD.out] at e1
                have HE := Lib.hid e1
                clear e1 hwf HW
                go_wp2_with fail
                obtain ⟨Y, hY⟩ : ∃ Y, ((((X.setCell ⟨w.heap.size, 0, none⟩ (.bool h.fo)).setCell ⟨w.heap.size, 1, none⟩ (.bool h.st)).setCell ⟨w.heap.size, 2, none⟩ (.bool h.ke)).setCell ⟨w.heap.size, 3, none⟩ (.int .i64 (h.dg : Int))) = Y := ⟨_, rfl⟩
                have hx : Y.heap[w.heap.size]? = some (.cells (hdC h) 27) := by rw [← hY]; exact set4 HX.out.1
                have hxb : Below w.heap.size w Y := by rw [← hY]; exact set4_below HX.out.2 (Nat.le_refl _)
                rw [hY]
                clear hY k0 k1 k2 k3
                have k0 : Y.cell? ⟨w.heap.size, 0, none⟩ = some (.bool h.fo) := by simp [World.cell?, hx, hdC]
                have k1 : Y.cell? ⟨w.heap.size, 1, none⟩ = some (.bool h.st) := by simp [World.cell?, hx, hdC]
                have k2 : Y.cell? ⟨w.heap.size, 2, none⟩ = some (.bool h.ke) := by simp [World.cell?, hx, hdC]
                have k3 : Y.cell? ⟨w.heap.size, 3, none⟩ = some (.int .i64 (h.dg : Int)) := by simp [World.cell?, hx, hdC]
                exact bodyPost_ret (v := .tuple #[hdV h, .int .i64 (j : Int), .bool true]) (by simp [results, Try.results14, go_sem, hdV, k0, k1, k2, k3]) rfl ⟨by rw [HK.out.1, HK.out.2.1, HE.out, Nat.zero_add], hxb⟩
              | some g2 =>
                rw [hwf] at hw
                injection hw with hg hok
                subst hg hok
                have e1 := hdGo_more h g2 z (zs.drop (j + 1)) hwf
                rw [← HD.out] at e1
                have HE := Lib.hid e1
                clear e1 hwf HW
                go_wp2_with fail
                go_roundw
                case rel =>
                  refine ⟨j + 1, g2, by omega, by omega, by go_num, ?_, ?_, set4 HX.out.1, set4_below HX.out.2 (Nat.le_refl _)⟩
                  · rw [HK.out.1, HE.out]
                  · rw [HK.out.2.1, HE.out]; omega
                case measure => simp [intOf]; omega
          · obtain rfl : j = n := by omega
            have d1 : decide ((j : Int) < (j : Int)) = false := decide_eq_false (by omega)
            have hnil : zs.drop j = [] := List.drop_eq_nil_of_le (by rw [HL.out]; omega)
            have HN := Lib.hid hnil
            clear hnil
            go_wp2_with fail
            obtain ⟨X, hX⟩ : ∃ X, ((((wr.setCell ⟨w.heap.size, 0, none⟩ (.bool h.fo)).setCell ⟨w.heap.size, 1, none⟩ (.bool h.st)).setCell ⟨w.heap.size, 2, none⟩ (.bool h.ke)).setCell ⟨w.heap.size, 3, none⟩ (.int .i64 (h.dg : Int))) = X := ⟨_, rfl⟩
            have hx : X.heap[w.heap.size]? = some (.cells (hdC h) 27) := by rw [← hX]; exact set4 (HK.out.2.2.1)
            have hxb : Below w.heap.size w X := by rw [← hX]; exact set4_below (HK.out.2.2.2) (Nat.le_refl _)
            rw [hX]
            clear hX
            have k0 : X.cell? ⟨w.heap.size, 0, none⟩ = some (.bool h.fo) := by simp [World.cell?, hx, hdC]
            have k1 : X.cell? ⟨w.heap.size, 1, none⟩ = some (.bool h.st) := by simp [World.cell?, hx, hdC]
            have k2 : X.cell? ⟨w.heap.size, 2, none⟩ = some (.bool h.ke) := by simp [World.cell?, hx, hdC]
            have k3 : X.cell? ⟨w.heap.size, 3, none⟩ = some (.int .i64 (h.dg : Int)) := by simp [World.cell?, hx, hdC]
            exact bodyPost_ret (v := .tuple #[hdV h, .int .i64 (j : Int), .bool true]) (by simp [results, Try.results14, go_sem, hdV, k0, k1, k2, k3]) rfl ⟨by rw [HK.out.1, HK.out.2.1, HN.out]; simp [hdGo], hxb⟩
      · obtain rfl : fo = true := by rw [← hfo]; decide
        clear hfo
        go_enter Try.func14, Try.ntmps14
        go_wp2_with fail
        clear hc0
        go_loopw [3] (fun i W => ∃ (j : Nat) (h : Hd), 1 ≤ j ∧ j ≤ n ∧ i = .int .i64 (j : Int) ∧
          Hid ((hdGo ⟨true, false, false, 0⟩ (zs.drop 1)).1 = (hdGo h (zs.drop j)).1 ∧ (hdGo ⟨true, false, false, 0⟩ (zs.drop 1)).2 + 1 = (hdGo h (zs.drop j)).2 + j ∧ W.heap[w.heap.size]? = some (.cells (hdC h) 27) ∧ Below w.heap.size w W)) (fun i _ => n - (intOf i).toNat)
        case atStart => exact ⟨1, ⟨true, false, false, 0⟩, by omega, by omega, rfl, rfl, rfl, heap_alloc_new w _, (Below.refl _ _).alloc (Nat.le_refl _) _⟩
        case round =>
          obtain ⟨j, h, hj1, hjn, rfl, HK⟩ := hrel
          have hblk := HK.out.2.2.1
          unfold hdC at hblk
          have hlt0 : w.heap.size < wr.heap.size := by rw [Array.getElem?_eq_some_iff] at hblk; exact hblk.1
          have c0 : wr.cell? ⟨w.heap.size, 0, none⟩ = some (.bool h.fo) := by simp [World.cell?, hblk]
          have c1 : wr.cell? ⟨w.heap.size, 1, none⟩ = some (.bool h.st) := by simp [World.cell?, hblk]
          have c2 : wr.cell? ⟨w.heap.size, 2, none⟩ = some (.bool h.ke) := by simp [World.cell?, hblk]
          have c3 : wr.cell? ⟨w.heap.size, 3, none⟩ = some (.int .i64 (h.dg : Int)) := by simp [World.cell?, hblk]
          have z0 : wr.frozen? ⟨w.heap.size, 0, none⟩ = false := by simp [World.frozen?, hblk]
          have z1 : wr.frozen? ⟨w.heap.size, 1, none⟩ = false := by simp [World.frozen?, hblk]
          have z2 : wr.frozen? ⟨w.heap.size, 2, none⟩ = false := by simp [World.frozen?, hblk]
          have z3 : wr.frozen? ⟨w.heap.size, 3, none⟩ = false := by simp [World.frozen?, hblk]
          clear hblk
          by_cases hlt : j < n
          · have d1 : (j : Int) < (n : Int) := by omega
            have hz := cell_keep HK.out.2.2.2 (HC.out j (by rw [HL.out]; exact hlt))
            have hzb := HB.out.at_ (k := j) (by rw [HL.out]; exact hlt)
            have hdr : zs.drop j = zs.getD j 0 :: zs.drop (j + 1) := by
              rw [List.drop_eq_getElem_cons (by rw [HL.out]; exact hlt)]
              congr 1
              simp [List.getD, show j < zs.length by rw [HL.out]; exact hlt]
            generalize zs.getD j 0 = z at *
            have HD := Lib.hid hdr
            clear hdr
            clear z0 z1 z2 z3
            obtain ⟨g, ok, hw⟩ : ∃ g ok, withR h z = (g, ok) := ⟨_, _, rfl⟩
            have HW := Lib.hid hw
            clear hw
            have hlt1 : w.heap.size < wr.heap.size := hlt0
            go_wp2_with fail
            have KEEP : Hid (∀ w', Below wr.heap.size wr w' → w'.cell? ⟨w.heap.size, 0, none⟩ = some (.bool h.fo) ∧ w'.cell? ⟨w.heap.size, 1, none⟩ = some (.bool h.st) ∧ w'.cell? ⟨w.heap.size, 2, none⟩ = some (.bool h.ke) ∧ w'.cell? ⟨w.heap.size, 3, none⟩ = some (.int .i64 (h.dg : Int)) ∧ w'.cell? ⟨b, off + j, none⟩ = some (.int .u8 z) ∧ Below wr.heap.size wr w') :=
              fun w' hw => ⟨cell_keep hw c0, cell_keep hw c1, cell_keep hw c2, cell_keep hw c3, cell_keep hw hz, hw⟩
            go_region_held3 (fun w' => w'.cell? ⟨w.heap.size, 0, none⟩ = some (.bool h.fo) ∧ w'.cell? ⟨w.heap.size, 1, none⟩ = some (.bool h.st) ∧ w'.cell? ⟨w.heap.size, 2, none⟩ = some (.bool h.ke) ∧ w'.cell? ⟨w.heap.size, 3, none⟩ = some (.int .i64 (h.dg : Int)) ∧ w'.cell? ⟨b, off + j, none⟩ = some (.int .u8 z) ∧ Below wr.heap.size wr w')
              (first
                | exact KEEP.out _ (Below.refl _ _)
                | exact KEEP.out _ (Below.refl _ _).drew
                | exact KEEP.out _ ((Below.refl _ _).drew.alloc (Nat.le_refl _) _)
                | exact KEEP.out _ HQ1.out
                | exact KEEP.out _ (HQ1.out.alloc HQ1.out.size _)
                | exact KEEP.out _ (((Below.refl _ _).alloc (Nat.le_refl _) _).drew)
                | exact KEEP.out _ ((((HQ1.out.setCell (p := ⟨wr.heap.size, 0, none⟩) (Nat.le_refl _) _).setCell (p := ⟨wr.heap.size, 1, none⟩) (Nat.le_refl _) _).setCell (p := ⟨wr.heap.size, 2, none⟩) (Nat.le_refl _) _).setCell (p := ⟨wr.heap.size, 3, none⟩) (Nat.le_refl _) _))
              (first
                | (go_at_call 27; refine (with_spelt h g ok z hzb.1 hzb.2 HW.out wr.drew).mono ?_; rintro e W1 ⟨rfl, hb⟩; have HQ1 := Lib.hid (below_step ((Below.refl _ _).drew) hb); clear hb)
                | (go_at_call 27; refine (with_spelt h g ok z hzb.1 hzb.2 HW.out (wr.alloc (.cells #[.bool false, .bool false, .bool false, .int .i64 0] 27)).drew).mono ?_; rintro e W1 ⟨rfl, hb⟩; have HQ1 := Lib.hid (below_step (((Below.refl _ _).alloc (Nat.le_refl _) _).drew) hb); have hn : W1.heap[wr.heap.size]? = some (.cells #[.bool false, .bool false, .bool false, .int .i64 0] 27) := (hb.block wr.heap.size (by simp)).trans (heap_alloc_new wr _); have q0 : W1.frozen? ⟨wr.heap.size, 0, none⟩ = false := (by simp [World.frozen?, hn]); have q1 : W1.frozen? ⟨wr.heap.size, 1, none⟩ = false := (by simp [World.frozen?, hn]); have q2 : W1.frozen? ⟨wr.heap.size, 2, none⟩ = false := (by simp [World.frozen?, hn]); have q3 : W1.frozen? ⟨wr.heap.size, 3, none⟩ = false := (by simp [World.frozen?, hn]); have r0 : W1.cell? ⟨wr.heap.size, 0, none⟩ = some (.bool false) := (by simp [World.cell?, hn]); have r1 : W1.cell? ⟨wr.heap.size, 1, none⟩ = some (.bool false) := (by simp [World.cell?, hn]); have r2 : W1.cell? ⟨wr.heap.size, 2, none⟩ = some (.bool false) := (by simp [World.cell?, hn]); have r3 : W1.cell? ⟨wr.heap.size, 3, none⟩ = some (.int .i64 0) := (by simp [World.cell?, hn]); have HN := Lib.hid hn; clear hb hn))
            · obtain ⟨P, hP⟩ : ∃ P, W1.heap.size = P := ⟨_, rfl⟩
              obtain ⟨X, hX⟩ : ∃ X, W1.alloc (.cells #[.bool g.fo, .bool g.st, .bool g.ke, .int .i64 (g.dg : Int)] 27) = X := ⟨_, rfl⟩
              have hx : X.heap[P]? = some (.cells #[.bool g.fo, .bool g.st, .bool g.ke, .int .i64 (g.dg : Int)] 27) := by rw [← hX, ← hP]; exact heap_alloc_new _ _
              have hxb : Below wr.heap.size wr X := by rw [← hX]; exact HQ1.out.alloc HQ1.out.size _
              have hPw : w.heap.size < P := by rw [← hP]; exact Nat.lt_of_lt_of_le hlt1 HQ1.out.size
              rw [hP]
              rw [hX]
              have hlX : w.heap.size < X.heap.size := Nat.lt_of_lt_of_le hlt1 hxb.size
              have hbX := HK.out.2.2.2.trans (hxb.mono HK.out.2.2.2.size)
              have hh : X.heap[w.heap.size]? = some (.cells (hdC h) 27) := (hxb.block _ hlt1).trans HK.out.2.2.1
              clear hX hxb
              have k0 : X.cell? ⟨w.heap.size, 0, none⟩ = some (.bool h.fo) := by simp [World.cell?, hh, hdC]
              have k1 : X.cell? ⟨w.heap.size, 1, none⟩ = some (.bool h.st) := by simp [World.cell?, hh, hdC]
              have k2 : X.cell? ⟨w.heap.size, 2, none⟩ = some (.bool h.ke) := by simp [World.cell?, hh, hdC]
              have k3 : X.cell? ⟨w.heap.size, 3, none⟩ = some (.int .i64 (h.dg : Int)) := by simp [World.cell?, hh, hdC]
              have y0 : X.frozen? ⟨w.heap.size, 0, none⟩ = false := by simp [World.frozen?, hh]
              have y1 : X.frozen? ⟨w.heap.size, 1, none⟩ = false := by simp [World.frozen?, hh]
              have y2 : X.frozen? ⟨w.heap.size, 2, none⟩ = false := by simp [World.frozen?, hh]
              have y3 : X.frozen? ⟨w.heap.size, 3, none⟩ = false := by simp [World.frozen?, hh]
              have m0 : X.cell? ⟨P, 0, none⟩ = some (.bool g.fo) := by simp [World.cell?, hx]
              have m1 : X.cell? ⟨P, 1, none⟩ = some (.bool g.st) := by simp [World.cell?, hx]
              have m2 : X.cell? ⟨P, 2, none⟩ = some (.bool g.ke) := by simp [World.cell?, hx]
              have m3 : X.cell? ⟨P, 3, none⟩ = some (.int .i64 (g.dg : Int)) := by simp [World.cell?, hx]
              have HX := Lib.hid (And.intro hh hbX)
              clear hh hbX hx hP c0 c1 c2 c3 hz KEEP HQ1
              have hw := HW.out
              unfold withR at hw
              cases hwf : withF h z with
              | none =>
                rw [hwf] at hw
                injection hw with hg hok
                subst hg hok
                have e1 := hdGo_stop h z (zs.drop (j + 1)) hwf
                rw [← HD.out] at e1
                have HE := Lib.hid e1
                clear e1 hwf HW
                go_wp2_with fail
                obtain ⟨Y, hY⟩ : ∃ Y, ((((X.setCell ⟨w.heap.size, 0, none⟩ (.bool h.fo)).setCell ⟨w.heap.size, 1, none⟩ (.bool h.st)).setCell ⟨w.heap.size, 2, none⟩ (.bool h.ke)).setCell ⟨w.heap.size, 3, none⟩ (.int .i64 (h.dg : Int))) = Y := ⟨_, rfl⟩
                have hx : Y.heap[w.heap.size]? = some (.cells (hdC h) 27) := by rw [← hY]; exact set4 HX.out.1
                have hxb : Below w.heap.size w Y := by rw [← hY]; exact set4_below HX.out.2 (Nat.le_refl _)
                rw [hY]
                clear hY k0 k1 k2 k3
                have k0 : Y.cell? ⟨w.heap.size, 0, none⟩ = some (.bool h.fo) := by simp [World.cell?, hx, hdC]
                have k1 : Y.cell? ⟨w.heap.size, 1, none⟩ = some (.bool h.st) := by simp [World.cell?, hx, hdC]
                have k2 : Y.cell? ⟨w.heap.size, 2, none⟩ = some (.bool h.ke) := by simp [World.cell?, hx, hdC]
                have k3 : Y.cell? ⟨w.heap.size, 3, none⟩ = some (.int .i64 (h.dg : Int)) := by simp [World.cell?, hx, hdC]
                exact bodyPost_ret (v := .tuple #[hdV h, .int .i64 (j : Int), .bool true]) (by simp [results, Try.results14, go_sem, hdV, k0, k1, k2, k3]) rfl ⟨by rw [HK.out.1, HK.out.2.1, HE.out, Nat.zero_add], hxb⟩
              | some g2 =>
                rw [hwf] at hw
                injection hw with hg hok
                subst hg hok
                have e1 := hdGo_more h g2 z (zs.drop (j + 1)) hwf
                rw [← HD.out] at e1
                have HE := Lib.hid e1
                clear e1 hwf HW
                go_wp2_with fail
                go_roundw
                case rel =>
                  refine ⟨j + 1, g2, by omega, by omega, by go_num, ?_, ?_, set4 HX.out.1, set4_below HX.out.2 (Nat.le_refl _)⟩
                  · rw [HK.out.1, HE.out]
                  · rw [HK.out.2.1, HE.out]; omega
                case measure => simp [intOf]; omega
            · obtain ⟨P, hP⟩ : ∃ P, wr.heap.size = P := ⟨_, rfl⟩
              obtain ⟨X, hX⟩ : ∃ X, ((((W1.setCell ⟨wr.heap.size, 0, none⟩ (.bool g.fo)).setCell ⟨wr.heap.size, 1, none⟩ (.bool g.st)).setCell ⟨wr.heap.size, 2, none⟩ (.bool g.ke)).setCell ⟨wr.heap.size, 3, none⟩ (.int .i64 (g.dg : Int))) = X := ⟨_, rfl⟩
              have hx : X.heap[P]? = some (.cells #[.bool g.fo, .bool g.st, .bool g.ke, .int .i64 (g.dg : Int)] 27) := by rw [← hX, ← hP]; exact set4 HN.out
              have hxb : Below wr.heap.size wr X := by rw [← hX]; exact (((HQ1.out.setCell (p := ⟨wr.heap.size, 0, none⟩) (Nat.le_refl _) _).setCell (p := ⟨wr.heap.size, 1, none⟩) (Nat.le_refl _) _).setCell (p := ⟨wr.heap.size, 2, none⟩) (Nat.le_refl _) _).setCell (p := ⟨wr.heap.size, 3, none⟩) (Nat.le_refl _) _
              have hPw : w.heap.size < P := by rw [← hP]; exact hlt1
              clear q0 q1 q2 q3 r0 r1 r2 r3 HN
              rw [hX, hP]
              have hlX : w.heap.size < X.heap.size := Nat.lt_of_lt_of_le hlt1 hxb.size
              have hbX := HK.out.2.2.2.trans (hxb.mono HK.out.2.2.2.size)
              have hh : X.heap[w.heap.size]? = some (.cells (hdC h) 27) := (hxb.block _ hlt1).trans HK.out.2.2.1
              clear hX hxb
              have k0 : X.cell? ⟨w.heap.size, 0, none⟩ = some (.bool h.fo) := by simp [World.cell?, hh, hdC]
              have k1 : X.cell? ⟨w.heap.size, 1, none⟩ = some (.bool h.st) := by simp [World.cell?, hh, hdC]
              have k2 : X.cell? ⟨w.heap.size, 2, none⟩ = some (.bool h.ke) := by simp [World.cell?, hh, hdC]
              have k3 : X.cell? ⟨w.heap.size, 3, none⟩ = some (.int .i64 (h.dg : Int)) := by simp [World.cell?, hh, hdC]
              have y0 : X.frozen? ⟨w.heap.size, 0, none⟩ = false := by simp [World.frozen?, hh]
              have y1 : X.frozen? ⟨w.heap.size, 1, none⟩ = false := by simp [World.frozen?, hh]
              have y2 : X.frozen? ⟨w.heap.size, 2, none⟩ = false := by simp [World.frozen?, hh]
              have y3 : X.frozen? ⟨w.heap.size, 3, none⟩ = false := by simp [World.frozen?, hh]
              have m0 : X.cell? ⟨P, 0, none⟩ = some (.bool g.fo) := by simp [World.cell?, hx]
              have m1 : X.cell? ⟨P, 1, none⟩ = some (.bool g.st) := by simp [World.cell?, hx]
              have m2 : X.cell? ⟨P, 2, none⟩ = some (.bool g.ke) := by simp [World.cell?, hx]
              have m3 : X.cell? ⟨P, 3, none⟩ = some (.int .i64 (g.dg : Int)) := by simp [World.cell?, hx]
              have HX := Lib.hid (And.intro hh hbX)
              clear hh hbX hx hP c0 c1 c2 c3 hz KEEP HQ1
              have hw := HW.out
              unfold withR at hw
              cases hwf : withF h z with
              | none =>
                rw [hwf] at hw
                injection hw with hg hok
                subst hg hok
                have e1 := hdGo_stop h z (zs.drop (j + 1)) hwf
                rw [← HD.out] at e1
                have HE := Lib.hid e1
                clear e1 hwf HW
                go_wp2_with fail
                obtain ⟨Y, hY⟩ : ∃ Y, ((((X.setCell ⟨w.heap.size, 0, none⟩ (.bool h.fo)).setCell ⟨w.heap.size, 1, none⟩ (.bool h.st)).setCell ⟨w.heap.size, 2, none⟩ (.bool h.ke)).setCell ⟨w.heap.size, 3, none⟩ (.int .i64 (h.dg : Int))) = Y := ⟨_, rfl⟩
                have hx : Y.heap[w.heap.size]? = some (.cells (hdC h) 27) := by rw [← hY]; exact set4 HX.out.1
                have hxb : Below w.heap.size w Y := by rw [← hY]; exact set4_below HX.out.2 (Nat.le_refl _)
                rw [hY]
                clear hY k0 k1 k2 k3
                have k0 : Y.cell? ⟨w.heap.size, 0, none⟩ = some (.bool h.fo) := by simp [World.cell?, hx, hdC]
                have k1 : Y.cell? ⟨w.heap.size, 1, none⟩ = some (.bool h.st) := by simp [World.cell?, hx, hdC]
                have k2 : Y.cell? ⟨w.heap.size, 2, none⟩ = some (.bool h.ke) := by simp [World.cell?, hx, hdC]
                have k3 : Y.cell? ⟨w.heap.size, 3, none⟩ = some (.int .i64 (h.dg : Int)) := by simp [World.cell?, hx, hdC]
                exact bodyPost_ret (v := .tuple #[hdV h, .int .i64 (j : Int), .bool true]) (by simp [results, Try.results14, go_sem, hdV, k0, k1, k2, k3]) rfl ⟨by rw [HK.out.1, HK.out.2.1, HE.out, Nat.zero_add], hxb⟩
              | some g2 =>
                rw [hwf] at hw
                injection hw with hg hok
                subst hg hok
                have e1 := hdGo_more h g2 z (zs.drop (j + 1)) hwf
                rw [← HD.out] at e1
                have HE := Lib.hid e1
                clear e1 hwf HW
                go_wp2_with fail
                go_roundw
                case rel =>
                  refine ⟨j + 1, g2, by omega, by omega, by go_num, ?_, ?_, set4 HX.out.1, set4_below HX.out.2 (Nat.le_refl _)⟩
                  · rw [HK.out.1, HE.out]
                  · rw [HK.out.2.1, HE.out]; omega
                case measure => simp [intOf]; omega
          · obtain rfl : j = n := by omega
            have d1 : decide ((j : Int) < (j : Int)) = false := decide_eq_false (by omega)
            have hnil : zs.drop j = [] := List.drop_eq_nil_of_le (by rw [HL.out]; omega)
            have HN := Lib.hid hnil
            clear hnil
            go_wp2_with fail
            obtain ⟨X, hX⟩ : ∃ X, ((((wr.setCell ⟨w.heap.size, 0, none⟩ (.bool h.fo)).setCell ⟨w.heap.size, 1, none⟩ (.bool h.st)).setCell ⟨w.heap.size, 2, none⟩ (.bool h.ke)).setCell ⟨w.heap.size, 3, none⟩ (.int .i64 (h.dg : Int))) = X := ⟨_, rfl⟩
            have hx : X.heap[w.heap.size]? = some (.cells (hdC h) 27) := by rw [← hX]; exact set4 (HK.out.2.2.1)
            have hxb : Below w.heap.size w X := by rw [← hX]; exact set4_below (HK.out.2.2.2) (Nat.le_refl _)
            rw [hX]
            clear hX
            have k0 : X.cell? ⟨w.heap.size, 0, none⟩ = some (.bool h.fo) := by simp [World.cell?, hx, hdC]
            have k1 : X.cell? ⟨w.heap.size, 1, none⟩ = some (.bool h.st) := by simp [World.cell?, hx, hdC]
            have k2 : X.cell? ⟨w.heap.size, 2, none⟩ = some (.bool h.ke) := by simp [World.cell?, hx, hdC]
            have k3 : X.cell? ⟨w.heap.size, 3, none⟩ = some (.int .i64 (h.dg : Int)) := by simp [World.cell?, hx, hdC]
            exact bodyPost_ret (v := .tuple #[hdV h, .int .i64 (j : Int), .bool true]) (by simp [results, Try.results14, go_sem, hdV, k0, k1, k2, k3]) rfl ⟨by rw [HK.out.1, HK.out.2.1, HN.out]; simp [hdGo], hxb⟩
    · have e1 : zs.getD 0 0 ≠ 124 := fun h => h1 (.inl h)
      have e2 : zs.getD 0 0 ≠ 62 := fun h => h1 (.inr h)
      rw [tkH_none zs e1 e2]
      generalize zs.getD 0 0 = z at *
      have f1 : (z != 124) = true := by simpa using e1
      have f2 : (z != 62) = true := by simpa using e2
      clear h1 hc
      go_enter Try.func14, Try.ntmps14
      go_wp2
      exact bodyPost_ret (v := .tuple #[hdV Hd.nil, .int .i64 0, .bool false]) (by simp [results, Try.results14, go_sem, hdV, Hd.nil]) rfl ⟨by simp, (Below.refl _ _).alloc (Nat.le_refl _) _⟩
end Go.Proofs.Ytodnfdkcmhiljaa
