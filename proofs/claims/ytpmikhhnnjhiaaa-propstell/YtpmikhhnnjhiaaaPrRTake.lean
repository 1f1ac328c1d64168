/- The document's TakeProps. -/
import Derived.Test.YtpmikhhnnjhiaaaPrRef
namespace Go.Proofs.Ytpmikhhnnjhiaaa
open Go.RowKit
set_option linter.unusedVariables false
set_option maxRecDepth 100000

theorem word_ways (l : List Int) : (begF l = false ∧ (wrdF l = [] ∨ ∃ x t, wrdF l = x :: t ∧ x ≠ 33 ∧ x ≠ 38)) ∨
    (begF l = true ∧ ∃ t, wrdF l = 33 :: t ∧ ∀ T A : List Int, withF T A (wrdF l) = if T.isEmpty && validF (wrdF l) then (wrdF l, A, true) else ([], [], false)) ∨
    (begF l = true ∧ ∃ t, wrdF l = 38 :: t ∧ ∀ T A : List Int, withF T A (wrdF l) = if A.isEmpty && nameF t then (T, t, true) else ([], [], false)) := by
  cases l with
  | nil => exact .inl ⟨rfl, .inl rfl⟩
  | cons x t =>
    rw [wrd_cons]
    by_cases h32 : x = 32
    · subst h32; exact .inl ⟨rfl, .inl rfl⟩
    · rw [if_neg h32]
      by_cases h33 : x = 33
      · subst h33; exact .inr (.inl ⟨rfl, _, rfl, fun T A => by simp [withF, cutF]⟩)
      · by_cases h38 : x = 38
        · subst h38; exact .inr (.inr ⟨rfl, _, rfl, fun T A => by simp [withF, cutF]⟩)
        · exact .inl ⟨by simp [begF, h33, h38], .inr ⟨x, _, rfl, h33, h38⟩⟩
/-- A text that is not empty: its first byte, and the rest. -/
theorem split_byt (s : ByteArray) (x : Int) (t : List Int) (h : byt s = x :: t) : 1 ≤ s.size ∧ s.toList.isEmpty = false ∧ byt (s.extract 1 s.size) = t ∧ ∀ W, (Instr.index 9 (.string s) (.int .i64 0)).run Try.prog W = .ok (.int .u8 x) W := by
  have hs : s.size = t.length + 1 := by rw [← byt_len, h]; rfl
  refine ⟨by omega, by rw [empty_byt, h]; rfl, by rw [byt_tail, h]; rfl, fun W => ?_⟩
  have := run_index_string (P := Try.prog) W 9 s .i64 0 Try.underlying9
  rw [dif_pos (by omega)] at this
  rw [this]
  have h0 := byt_at s 0 (by omega)
  rw [h] at h0
  injection h0 with h0
  have : ((s[(0 : Int).toNat]'(by omega)).toNat : Int) = x := h0.symm
  rw [this]
set_option maxHeartbeats 3000000 in
theorem refTake_any (A : Option Addr) (n c : Nat) (zs : List Int) (w : World) (hl : zs.length = n) (hnc : n ≤ c) (hm : c ≤ 9223372036854775807) (hA : A = none → c = 0) (hb : Byte zs) (hr : RdB w A zs) :
    Calls Try.prog 14 #[.slice A n c] w (TakeP zs w) := by
  have HR := Lib.hid hr
  have HB := Lib.hid hb
  have HL := Lib.hid hl
  have HA := Lib.hid hA
  clear hr hb hl hA
  unfold TakeP
  go_enter Try.func14, Try.ntmps14
  go_wp2_with fail
  obtain ⟨g, hg⟩ : ∃ g, w.heap.size + 1 = g := ⟨_, rfl⟩
  have hgw : w.heap.size < g := by omega
  have START : Hid (Own2 ((w.alloc (.cells #[.string ⟨#[]⟩, .string ⟨#[]⟩] 38)).alloc (.cells #[.string ⟨#[]⟩, .string ⟨#[]⟩] 38)) g 38 ⟨#[]⟩ ⟨#[]⟩ ∧ Own2 ((w.alloc (.cells #[.string ⟨#[]⟩, .string ⟨#[]⟩] 38)).alloc (.cells #[.string ⟨#[]⟩, .string ⟨#[]⟩] 38)) w.heap.size 38 ⟨#[]⟩ ⟨#[]⟩ ∧
      Below w.heap.size w ((w.alloc (.cells #[.string ⟨#[]⟩, .string ⟨#[]⟩] 38)).alloc (.cells #[.string ⟨#[]⟩, .string ⟨#[]⟩] 38))) := by
    refine ⟨?_, ?_, ((Below.refl _ _).alloc (Nat.le_refl _) _).alloc (by simp) _⟩
    · have := Own2.new (w.alloc (.cells #[.string ⟨#[]⟩, .string ⟨#[]⟩] 38)) 38 ⟨#[]⟩ ⟨#[]⟩
      rw [show (w.alloc (.cells #[.string ⟨#[]⟩, .string ⟨#[]⟩] 38)).heap.size = g by simp [hg]] at this
      exact this
    · exact (Own2.new w 38 ⟨#[]⟩ ⟨#[]⟩).below ((Below.refl _ _).alloc (Nat.le_refl _) _)
  try rw [hg]
  clear hg
  go_loopw [6, 7] (fun nn i W => ∃ (k m : Nat), k ≤ n ∧ m ≤ n ∧ nn = .int .i64 (m : Int) ∧ i = .int .i64 (k : Int) ∧
    Hid (∃ (f : Nat) (t a : ByteArray), n - k < f ∧ takeP zs = goP f (zs.drop k) k m (byt t) (byt a) ∧ Own2 W g 38 t a ∧ Own2 W w.heap.size 38 ⟨#[]⟩ ⟨#[]⟩ ∧ Below w.heap.size w W)) (fun _ i _ => n - (intOf i).toNat)
  case atStart => exact ⟨0, 0, by omega, by omega, rfl, rfl, n + 1, ⟨#[]⟩, ⟨#[]⟩, by omega, by rw [← HL.out]; rfl, START.out⟩
  case round =>
    obtain ⟨k, m, hk, hmn, rfl, rfl, HK⟩ := hrel
    obtain ⟨W, hW⟩ : ∃ x, x = wr := ⟨_, rfl⟩
    subst hW
    obtain ⟨f, t, a, hf, hgo, hown, hres0, hbel⟩ := HK.out
    obtain ⟨f, rfl⟩ : ∃ g, f = g + 1 := ⟨f - 1, by omega⟩
    have HGO := Lib.hid hgo
    have HOWN := Lib.hid hown
    have HRES0 := Lib.hid hres0
    have HBEL := Lib.hid hbel
    have c0 := hown.c0
    have c1 := hown.c1
    have y0 := hres0.c0
    have y1 := hres0.c1
    have z0 := hown.z0
    have z1 := hown.z1
    have x0 := hres0.z0
    have x1 := hres0.z1
    clear hgo hown hbel hres0 HK START
    by_cases hlt : k < n
    · have d1 : (k : Int) < (n : Int) := by omega
      obtain ⟨A', hrun, hA', hrd⟩ := slice_l A n c k zs HL.out hnc HA.out hk
      have HWORD := Lib.hid (refWord_any A' (n - k) (c - k) (zs.drop k) W (by rw [List.length_drop, HL.out]) (by omega) (by omega) hA' (HB.out.drop k) (hrd W (HR.out.below HBEL.out)))
      clear hA' hrd
      go_wp2_with fail
      refine HWORD.out.mono ?_
      rintro e w' ⟨⟨s, hs, rfl⟩, rfl⟩
      clear HWORD hrun
      have hsz : s.size = (wrdF (zs.drop k)).length := by rw [← byt_len, hs]
      have hwl := wrd_len (zs.drop k)
      rw [← hsz, List.length_drop, HL.out] at hwl
      have HSZ := Lib.hid hsz
      clear hsz
      rcases word_ways (zs.drop k) with ⟨hq, hw⟩ | ⟨hq, u, hw, hwf⟩ | ⟨hq, u, hw, hwf⟩
      · have HRES : Hid (takeP zs = (byt t, byt a, m, true)) := by show _ = _; rw [HGO.out, goP_stop _ _ _ _ _ _ hq]
        rcases hw with hw | ⟨x, u, hw, h33, h38⟩
        · have he : s.toList.isEmpty = true := by rw [empty_byt, hs, hw]; rfl
          clear hs hw hq
          go_wp2_with fail
          obtain ⟨Y, hY⟩ : ∃ Y, ((W.setCell ⟨w.heap.size, 0, none⟩ (.string t)).setCell ⟨w.heap.size, 1, none⟩ (.string a)) = Y := ⟨_, rfl⟩
          have hy : Own2 Y w.heap.size 38 t a := by rw [← hY]; exact HRES0.out.set
          have hyb : Below w.heap.size w Y := by rw [← hY]; exact set2_below HBEL.out (Nat.le_refl _)
          rw [hY]
          clear hY c0 c1 z0 z1 y0 y1 x0 x1
          have c0 : Y.cell? ⟨w.heap.size, 0, none⟩ = some (.string t) := hy.c0
          have c1 : Y.cell? ⟨w.heap.size, 1, none⟩ = some (.string a) := hy.c1
          exact bodyPost_ret (v := .tuple #[.agg #[.string t, .string a], .int .i64 (m : Int), .bool true]) (by simp [results, Try.results14, go_sem, c0, c1]) rfl ⟨t, a, by rw [HRES.out], by rw [HRES.out], by rw [HRES.out], hyb⟩
        · obtain ⟨hs1, he, -, hix⟩ := split_byt s x u (by rw [hs, hw])
          have e33 : (x == 33) = false := beq_eq_false_iff_ne.2 h33
          have e38 : (x == 38) = false := beq_eq_false_iff_ne.2 h38
          clear hs hw hq
          go_wp2_with fail
          obtain ⟨Y, hY⟩ : ∃ Y, ((W.setCell ⟨w.heap.size, 0, none⟩ (.string t)).setCell ⟨w.heap.size, 1, none⟩ (.string a)) = Y := ⟨_, rfl⟩
          have hy : Own2 Y w.heap.size 38 t a := by rw [← hY]; exact HRES0.out.set
          have hyb : Below w.heap.size w Y := by rw [← hY]; exact set2_below HBEL.out (Nat.le_refl _)
          rw [hY]
          clear hY c0 c1 z0 z1 y0 y1 x0 x1
          have c0 : Y.cell? ⟨w.heap.size, 0, none⟩ = some (.string t) := hy.c0
          have c1 : Y.cell? ⟨w.heap.size, 1, none⟩ = some (.string a) := hy.c1
          exact bodyPost_ret (v := .tuple #[.agg #[.string t, .string a], .int .i64 (m : Int), .bool true]) (by simp [results, Try.results14, go_sem, c0, c1]) rfl ⟨t, a, by rw [HRES.out], by rw [HRES.out], by rw [HRES.out], hyb⟩
      · have HQ := Lib.hid hq
        obtain ⟨hs1, he, -, hix⟩ := split_byt s 33 u (by rw [hs, hw])
        have hwp : 1 ≤ s.size := hs1
        have hwv := hwf (byt t) (byt a)
        rw [← hs] at hwv
        have hbs : wrdF (zs.drop k) = byt s := hs.symm
        have VC := Lib.hid (refValid_any s (by unfold maxLen; omega) W)
        have hbad : (withF (byt t) (byt a) (byt s)).2.2 = false → Hid (takeP zs = ([], [], 0, false)) := fun h => by
          show _ = _
          rw [HGO.out, goP_bad _ _ _ _ _ _ HQ.out (by rw [hbs]; exact h)]
        clear hw hwf hq
        cases hte : t.toList.isEmpty with
        | false =>
          have HRES := hbad (by rw [hwv, ← empty_byt, hte]; rfl)
          clear hbad hwv hs hbs VC
          go_wp2_with fail
          obtain ⟨Y, hY⟩ : ∃ Y, ((W.setCell ⟨w.heap.size, 0, none⟩ (.string ⟨#[]⟩)).setCell ⟨w.heap.size, 1, none⟩ (.string ⟨#[]⟩)) = Y := ⟨_, rfl⟩
          have hy : Own2 Y w.heap.size 38 ⟨#[]⟩ ⟨#[]⟩ := by rw [← hY]; exact HRES0.out.set
          have hyb : Below w.heap.size w Y := by rw [← hY]; exact set2_below HBEL.out (Nat.le_refl _)
          rw [hY]
          clear hY c0 c1 z0 z1 y0 y1 x0 x1
          have c0 := hy.c0
          have c1 := hy.c1
          exact bodyPost_ret (v := .tuple #[.agg #[.string ⟨#[]⟩, .string ⟨#[]⟩], .int .i64 0, .bool false]) (by simp [results, Try.results14, go_sem, c0, c1]) rfl ⟨⟨#[]⟩, ⟨#[]⟩, by rw [HRES.out]; rfl, by rw [HRES.out]; rfl, by rw [HRES.out]; rfl, hyb⟩
        | true =>
          cases hvl : validF (byt s) with
          | false =>
            have HRES := hbad (by rw [hwv, hvl, Bool.and_false]; rfl)
            rw [hvl] at VC
            clear hbad hwv hs hbs hvl
            go_wp2_with (go_at_call 18; refine VC.out.mono ?_; rintro e w' ⟨rfl, rfl⟩)
            obtain ⟨Y, hY⟩ : ∃ Y, ((W.setCell ⟨w.heap.size, 0, none⟩ (.string ⟨#[]⟩)).setCell ⟨w.heap.size, 1, none⟩ (.string ⟨#[]⟩)) = Y := ⟨_, rfl⟩
            have hy : Own2 Y w.heap.size 38 ⟨#[]⟩ ⟨#[]⟩ := by rw [← hY]; exact HRES0.out.set
            have hyb : Below w.heap.size w Y := by rw [← hY]; exact set2_below HBEL.out (Nat.le_refl _)
            rw [hY]
            clear hY c0 c1 z0 z1 y0 y1 x0 x1
            have c0 := hy.c0
            have c1 := hy.c1
            exact bodyPost_ret (v := .tuple #[.agg #[.string ⟨#[]⟩, .string ⟨#[]⟩], .int .i64 0, .bool false]) (by simp [results, Try.results14, go_sem, c0, c1]) rfl ⟨⟨#[]⟩, ⟨#[]⟩, by rw [HRES.out]; rfl, by rw [HRES.out]; rfl, by rw [HRES.out]; rfl, hyb⟩
          | true =>
            rw [hvl] at VC
            rw [hvl, ← empty_byt, hte] at hwv
            rw [← hbs] at hwv
            have HBS := Lib.hid hs
            have hwv : withF (byt t) (byt a) (wrdF (zs.drop k)) = (byt s, byt a, true) := by rw [hwv, hbs]; rfl
            clear hbad hs hbs hvl
            have hgn := goP_next f _ k m (byt t) (byt a) HQ.out (by rw [hwv])
            rw [hwv, ← HGO.out, ← HSZ.out] at hgn
            simp only [List.drop_drop] at hgn
            obtain ⟨p, hp⟩ : ∃ p, s.size = p := ⟨_, rfl⟩
            rw [hp] at hwl hwp hgn
            try rw [hp] at hv
            have HGN := Lib.hid hgn
            clear hgn hwv
            go_wp2_with (go_at_call 18; refine VC.out.mono ?_; rintro e w' ⟨rfl, rfl⟩)
            obtain ⟨X, hX⟩ : ∃ X, W.setCell ⟨g, 0, none⟩ (.string s) = X := ⟨_, rfl⟩
            have HX : Hid (Own2 X g 38 s a ∧ Own2 X w.heap.size 38 ⟨#[]⟩ ⟨#[]⟩ ∧ Below w.heap.size w X) := by
              refine ⟨by rw [← hX]; exact HOWN.out.set0, ?_, by rw [← hX]; exact HBEL.out.setCell (p := ⟨g, 0, none⟩) (by show _ ≤ g; omega) _⟩
              rw [← hX]
              have := HRES0.out
              unfold Own2 at this ⊢
              simp [World.setCell, Array.getElem?_modify, this, show ¬ g = w.heap.size by omega]
            rw [hX]
            clear hX c0 c1 z0 z1 y0 y1 x0 x1
            go_loop [7] (fun i => ∃ j : Nat, k + p + j ≤ n ∧ i = .int .i64 ((k : Int) + (p : Int) + (j : Int)) ∧ Hid (blkF (zs.drop (k + p)) = j + blkF (zs.drop (k + p + j)))) (fun i => n - (intOf i).toNat)
            case atStart => exact ⟨0, by omega, by simp, by show _ = _; simp⟩
            case round =>
              obtain ⟨j, hj, rfl, HJ⟩ := hrel
              by_cases hlt2 : k + p + j < n
              · obtain ⟨b, off, e', hc⟩ := (HR.out.below HX.out.2.2).addr (by rw [HL.out]; omega)
                subst e'
                have ck := hc (k + p + j) (by rw [HL.out]; exact hlt2)
                have hbk := blk_at (l := zs) (k := k + p + j) (by rw [HL.out]; exact hlt2)
                have d2 : (k : Int) + (p : Int) + (j : Int) < (n : Int) := by omega
                have htn : ((k : Int) + (p : Int) + (j : Int)).toNat = k + p + j := by omega
                generalize zs.getD (k + p + j) 0 = z at *
                by_cases h32 : z = 32
                · subst h32
                  have HJ2 : Hid (blkF (zs.drop (k + p)) = j + 1 + blkF (zs.drop (k + p + (j + 1)))) := by show _ = _; rw [HJ.out, hbk, if_pos rfl, show k + p + (j + 1) = k + p + j + 1 by omega]; omega
                  clear hbk hc
                  go_wp2_with fail
                  go_round
                  case rel => exact ⟨j + 1, by omega, by go_num, HJ2⟩
                  case measure => simp [intOf]; omega
                · have ds : (z == 32) = false := beq_eq_false_iff_ne.2 h32
                  have HJ2 : Hid (blkF (zs.drop (k + p)) = j) := by show _ = _; rw [HJ.out, hbk, if_neg h32]; omega
                  clear hbk hc
                  go_wp2_with fail
                  exact ⟨⟨k + p + j, k + p, by omega, by omega, by go_num, by go_num, f, s, a, by omega, by rw [HGN.out, HJ2.out], HX.out⟩, by simp only [intOf]; omega⟩
              · have HJ2 : Hid (blkF (zs.drop (k + p)) = j) := by show _ = _; rw [HJ.out, blk_end (by rw [HL.out]; omega)]; omega
                have d2 : decide ((k : Int) + (p : Int) + (j : Int) < (n : Int)) = false := decide_eq_false (by omega)
                go_wp2_with fail
                exact ⟨⟨k + p + j, k + p, by omega, by omega, by go_num, by go_num, f, s, a, by omega, by rw [HGN.out, HJ2.out], HX.out⟩, by simp only [intOf]; omega⟩
      · have HQ := Lib.hid hq
        obtain ⟨hs1, he, hu, hix⟩ := split_byt s 38 u (by rw [hs, hw])
        have hwp : 1 ≤ s.size := hs1
        obtain ⟨v, hv⟩ : ∃ v, s.extract 1 s.size = v := ⟨_, rfl⟩
        rw [hv] at hu
        have hvz : v.size ≤ maxLen := by rw [← hv, ByteArray.size_extract]; unfold maxLen; omega
        have hwv := hwf (byt t) (byt a)
        rw [← hs, ← hu] at hwv
        have hbs : wrdF (zs.drop k) = byt s := hs.symm
        have NC := Lib.hid (refName_any v W hvz)
        have hbad : (withF (byt t) (byt a) (byt s)).2.2 = false → Hid (takeP zs = ([], [], 0, false)) := fun h => by
          show _ = _
          rw [HGO.out, goP_bad _ _ _ _ _ _ HQ.out (by rw [hbs]; exact h)]
        clear hw hwf hq hu hvz
        cases hte : a.toList.isEmpty with
        | false =>
          have HRES := hbad (by rw [hwv, ← empty_byt, hte]; rfl)
          clear hbad hwv hs hbs NC
          go_wp2_with fail
          obtain ⟨Y, hY⟩ : ∃ Y, ((W.setCell ⟨w.heap.size, 0, none⟩ (.string ⟨#[]⟩)).setCell ⟨w.heap.size, 1, none⟩ (.string ⟨#[]⟩)) = Y := ⟨_, rfl⟩
          have hy : Own2 Y w.heap.size 38 ⟨#[]⟩ ⟨#[]⟩ := by rw [← hY]; exact HRES0.out.set
          have hyb : Below w.heap.size w Y := by rw [← hY]; exact set2_below HBEL.out (Nat.le_refl _)
          rw [hY]
          clear hY c0 c1 z0 z1 y0 y1 x0 x1
          have c0 := hy.c0
          have c1 := hy.c1
          exact bodyPost_ret (v := .tuple #[.agg #[.string ⟨#[]⟩, .string ⟨#[]⟩], .int .i64 0, .bool false]) (by simp [results, Try.results14, go_sem, c0, c1]) rfl ⟨⟨#[]⟩, ⟨#[]⟩, by rw [HRES.out]; rfl, by rw [HRES.out]; rfl, by rw [HRES.out]; rfl, hyb⟩
        | true =>
          cases hvl : nameF (byt v) with
          | false =>
            have HRES := hbad (by rw [hwv, hvl, Bool.and_false]; rfl)
            rw [hvl] at NC
            clear hbad hwv hs hbs hvl
            go_wp2_with (go_at_call 30; refine NC.out.mono ?_; rintro e w' ⟨rfl, rfl⟩)
            obtain ⟨Y, hY⟩ : ∃ Y, ((W.setCell ⟨w.heap.size, 0, none⟩ (.string ⟨#[]⟩)).setCell ⟨w.heap.size, 1, none⟩ (.string ⟨#[]⟩)) = Y := ⟨_, rfl⟩
            have hy : Own2 Y w.heap.size 38 ⟨#[]⟩ ⟨#[]⟩ := by rw [← hY]; exact HRES0.out.set
            have hyb : Below w.heap.size w Y := by rw [← hY]; exact set2_below HBEL.out (Nat.le_refl _)
            rw [hY]
            clear hY c0 c1 z0 z1 y0 y1 x0 x1
            have c0 := hy.c0
            have c1 := hy.c1
            exact bodyPost_ret (v := .tuple #[.agg #[.string ⟨#[]⟩, .string ⟨#[]⟩], .int .i64 0, .bool false]) (by simp [results, Try.results14, go_sem, c0, c1]) rfl ⟨⟨#[]⟩, ⟨#[]⟩, by rw [HRES.out]; rfl, by rw [HRES.out]; rfl, by rw [HRES.out]; rfl, hyb⟩
          | true =>
            rw [hvl] at NC
            rw [hvl, ← empty_byt, hte] at hwv
            rw [← hbs] at hwv
            have hwv : withF (byt t) (byt a) (wrdF (zs.drop k)) = (byt t, byt v, true) := by rw [hwv]; rfl
            clear hbad hs hbs hvl
            have hgn := goP_next f _ k m (byt t) (byt a) HQ.out (by rw [hwv])
            rw [hwv, ← HGO.out, ← HSZ.out] at hgn
            simp only [List.drop_drop] at hgn
            obtain ⟨p, hp⟩ : ∃ p, s.size = p := ⟨_, rfl⟩
            rw [hp] at hwl hwp hgn
            try rw [hp] at hv
            have HGN := Lib.hid hgn
            clear hgn hwv
            go_wp2_with (go_at_call 30; refine NC.out.mono ?_; rintro e w' ⟨rfl, rfl⟩)
            obtain ⟨X, hX⟩ : ∃ X, W.setCell ⟨g, 1, none⟩ (.string v) = X := ⟨_, rfl⟩
            have HX : Hid (Own2 X g 38 t v ∧ Own2 X w.heap.size 38 ⟨#[]⟩ ⟨#[]⟩ ∧ Below w.heap.size w X) := by
              refine ⟨by rw [← hX]; exact HOWN.out.set1, ?_, by rw [← hX]; exact HBEL.out.setCell (p := ⟨g, 1, none⟩) (by show _ ≤ g; omega) _⟩
              rw [← hX]
              have := HRES0.out
              unfold Own2 at this ⊢
              simp [World.setCell, Array.getElem?_modify, this, show ¬ g = w.heap.size by omega]
            rw [hX]
            clear hX c0 c1 z0 z1 y0 y1 x0 x1
            go_loop [7] (fun i => ∃ j : Nat, k + p + j ≤ n ∧ i = .int .i64 ((k : Int) + (p : Int) + (j : Int)) ∧ Hid (blkF (zs.drop (k + p)) = j + blkF (zs.drop (k + p + j)))) (fun i => n - (intOf i).toNat)
            case atStart => exact ⟨0, by omega, by simp, by show _ = _; simp⟩
            case round =>
              obtain ⟨j, hj, rfl, HJ⟩ := hrel
              by_cases hlt2 : k + p + j < n
              · obtain ⟨b, off, e', hc⟩ := (HR.out.below HX.out.2.2).addr (by rw [HL.out]; omega)
                subst e'
                have ck := hc (k + p + j) (by rw [HL.out]; exact hlt2)
                have hbk := blk_at (l := zs) (k := k + p + j) (by rw [HL.out]; exact hlt2)
                have d2 : (k : Int) + (p : Int) + (j : Int) < (n : Int) := by omega
                have htn : ((k : Int) + (p : Int) + (j : Int)).toNat = k + p + j := by omega
                generalize zs.getD (k + p + j) 0 = z at *
                by_cases h32 : z = 32
                · subst h32
                  have HJ2 : Hid (blkF (zs.drop (k + p)) = j + 1 + blkF (zs.drop (k + p + (j + 1)))) := by show _ = _; rw [HJ.out, hbk, if_pos rfl, show k + p + (j + 1) = k + p + j + 1 by omega]; omega
                  clear hbk hc
                  go_wp2_with fail
                  go_round
                  case rel => exact ⟨j + 1, by omega, by go_num, HJ2⟩
                  case measure => simp [intOf]; omega
                · have ds : (z == 32) = false := beq_eq_false_iff_ne.2 h32
                  have HJ2 : Hid (blkF (zs.drop (k + p)) = j) := by show _ = _; rw [HJ.out, hbk, if_neg h32]; omega
                  clear hbk hc
                  go_wp2_with fail
                  exact ⟨⟨k + p + j, k + p, by omega, by omega, by go_num, by go_num, f, t, v, by omega, by rw [HGN.out, HJ2.out], HX.out⟩, by simp only [intOf]; omega⟩
              · have HJ2 : Hid (blkF (zs.drop (k + p)) = j) := by show _ = _; rw [HJ.out, blk_end (by rw [HL.out]; omega)]; omega
                have d2 : decide ((k : Int) + (p : Int) + (j : Int) < (n : Int)) = false := decide_eq_false (by omega)
                go_wp2_with fail
                exact ⟨⟨k + p + j, k + p, by omega, by omega, by go_num, by go_num, f, t, v, by omega, by rw [HGN.out, HJ2.out], HX.out⟩, by simp only [intOf]; omega⟩
    · have d1 : decide ((k : Int) < (n : Int)) = false := decide_eq_false (by omega)
      have HRES : Hid (takeP zs = (byt t, byt a, m, true)) := by show _ = _; rw [HGO.out, goP_stop _ _ _ _ _ _ (by rw [List.drop_of_length_le (by rw [HL.out]; omega)]; rfl)]
      go_wp2_with fail
      obtain ⟨Y, hY⟩ : ∃ Y, ((W.setCell ⟨w.heap.size, 0, none⟩ (.string t)).setCell ⟨w.heap.size, 1, none⟩ (.string a)) = Y := ⟨_, rfl⟩
      have hy : Own2 Y w.heap.size 38 t a := by rw [← hY]; exact HRES0.out.set
      have hyb : Below w.heap.size w Y := by rw [← hY]; exact set2_below HBEL.out (Nat.le_refl _)
      rw [hY]
      clear hY c0 c1 z0 z1 y0 y1 x0 x1
      have c0 : Y.cell? ⟨w.heap.size, 0, none⟩ = some (.string t) := hy.c0
      have c1 : Y.cell? ⟨w.heap.size, 1, none⟩ = some (.string a) := hy.c1
      exact bodyPost_ret (v := .tuple #[.agg #[.string t, .string a], .int .i64 (m : Int), .bool true]) (by simp [results, Try.results14, go_sem, c0, c1]) rfl ⟨t, a, by rw [HRES.out], by rw [HRES.out], by rw [HRES.out], hyb⟩
end Go.Proofs.Ytpmikhhnnjhiaaa
