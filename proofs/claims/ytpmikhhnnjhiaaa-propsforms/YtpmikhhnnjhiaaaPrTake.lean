/- props.Take. -/
import Derived.Test.YtpmikhhnnjhiaaaPrMain
namespace Go.Proofs.Ytpmikhhnnjhiaaa
open Go.RowKit
set_option linter.unusedVariables false
set_option maxRecDepth 100000

def TakeP (zs : List Int) (w : World) (e : Ending) (w' : World) : Prop :=
  ∃ t a : ByteArray, byt t = (takeP zs).1 ∧ byt a = (takeP zs).2.1 ∧ e = .returned (.tuple #[.agg #[.string t, .string a], .int .i64 ((takeP zs).2.2.1 : Int), .bool (takeP zs).2.2.2]) ∧ Below w.heap.size w w'
set_option maxHeartbeats 4000000 in
theorem take_any (A : Option Addr) (n c : Nat) (zs : List Int) (w : World) (hl : zs.length = n) (hnc : n ≤ c) (hm : c ≤ 9223372036854775807) (hA : A = none → c = 0) (hb : Byte zs) (hr : RdB w A zs) :
    Calls Try.prog 9 #[.slice A n c] w (TakeP zs w) := by
  have HR := Lib.hid hr
  have HB := Lib.hid hb
  have HL := Lib.hid hl
  have HA := Lib.hid hA
  clear hr hb hl hA
  unfold TakeP
  go_enter Try.func9, Try.ntmps9
  go_wp2_with fail
  go_loopw [3, 5] (fun nn i W => ∃ (k m : Nat), k ≤ n ∧ m ≤ n ∧ nn = .int .i64 (m : Int) ∧ i = .int .i64 (k : Int) ∧
    Hid (∃ (f : Nat) (t a : ByteArray), n - k < f ∧ takeP zs = goP f (zs.drop k) k m (byt t) (byt a) ∧ Own2 W w.heap.size 25 t a ∧ Below w.heap.size w W)) (fun _ i _ => n - (intOf i).toNat)
  case atStart => exact ⟨0, 0, by omega, by omega, rfl, rfl, n + 1, ⟨#[]⟩, ⟨#[]⟩, by omega, by rw [← HL.out]; rfl, Own2.new _ _ _ _, (Below.refl _ _).alloc (Nat.le_refl _) _⟩
  case round =>
    obtain ⟨k, m, hk, hmn, rfl, rfl, HK⟩ := hrel
    obtain ⟨W, hW⟩ : ∃ x, x = wr := ⟨_, rfl⟩
    subst hW
    obtain ⟨f, t, a, hf, hgo, hown, hbel⟩ := HK.out
    obtain ⟨f, rfl⟩ : ∃ g, f = g + 1 := ⟨f - 1, by omega⟩
    have hW1 : w.heap.size < W.heap.size := hown.lt
    have HGO := Lib.hid hgo
    have HOWN := Lib.hid hown
    have HBEL := Lib.hid hbel
    clear hgo hown hbel HK
    obtain ⟨A', hrun, hA', hrd⟩ := slice_l A n c k zs HL.out hnc HA.out hk
    have HRD := Lib.hid hrd
    have HA' := Lib.hid hA'
    clear hrd hA'
    go_wp2_with fail
    refine (begins_any A' (n - k) (c - k) (zs.drop k) W (by rw [List.length_drop, HL.out]) (by omega) (by omega) (HRD.out W (HR.out.below HBEL.out))).mono ?_
    rintro e W1 ⟨rfl, hb1⟩
    have hb01 := below_step HBEL.out hb1
    have hown1 := HOWN.out.below hb1
    have HB01 := Lib.hid hb01
    have HOWN1 := Lib.hid hown1
    clear hb1 hb01 hown1 HBEL HOWN
    cases hq : begF (zs.drop k) with
    | false =>
      have hres : takeP zs = (byt t, byt a, m, true) := by rw [HGO.out, goP_stop _ _ _ _ _ _ hq]
      have HRES := Lib.hid hres
      have c0 := HOWN1.out.c0
      have c1 := HOWN1.out.c1
      have z0 := HOWN1.out.z0
      have z1 := HOWN1.out.z1
      clear hq hres hrun
      go_wp2_with fail
      obtain ⟨Y, hY⟩ : ∃ Y, ((W1.setCell ⟨w.heap.size, 0, none⟩ (.string t)).setCell ⟨w.heap.size, 1, none⟩ (.string a)) = Y := ⟨_, rfl⟩
      have hy : Own2 Y w.heap.size 25 t a := by rw [← hY]; exact HOWN1.out.set
      have hyb : Below w.heap.size w Y := by rw [← hY]; exact set2_below HB01.out (Nat.le_refl _)
      rw [hY]
      clear hY c0 c1 z0 z1
      have c0 := hy.c0
      have c1 := hy.c1
      exact bodyPost_ret (v := .tuple #[.agg #[.string t, .string a], .int .i64 (m : Int), .bool true]) (by simp [results, Try.results9, go_sem, c0, c1]) rfl ⟨t, a, by rw [HRES.out], by rw [HRES.out], by rw [HRES.out], hyb⟩
    | true =>
      have HQ := Lib.hid hq
      clear hq
      go_wp2_with fail
      refine (firstWord_any A' (n - k) (c - k) (zs.drop k) W1 (by rw [List.length_drop, HL.out]) (by omega) (by omega) HA'.out (HB.out.drop k) (HRD.out W1 (HR.out.below HB01.out))).mono ?_
      rintro e W2 ⟨s, hs, rfl, hb2⟩
      have hb02 := below_step HB01.out hb2
      have hown2 := HOWN1.out.below hb2
      have HB02 := Lib.hid hb02
      have HOWN2 := Lib.hid hown2
      have hsz : s.size = (wrdF (zs.drop k)).length := by rw [← byt_len, hs]
      have hwl := wrd_len (zs.drop k)
      have hwp := wrd_pos (zs.drop k) HQ.out
      rw [← hsz] at hwl hwp
      rw [List.length_drop, HL.out] at hwl
      have HS := Lib.hid hs
      have HSZ := Lib.hid hsz
      clear hb2 hb02 hown2 hs hsz HB01 HOWN1
      have c0 := HOWN2.out.c0
      have c1 := HOWN2.out.c1
      go_wp2_with fail
      refine (with_any t a s (by unfold maxLen; omega) W2).mono ?_
      rintro e W3 ⟨t', a', ht', ha', rfl, hb3⟩
      rw [HS.out] at ht' ha'
      rw [HS.out]
      clear c0 c1
      have hb03 := below_step HB02.out hb3
      have hown3 := HOWN2.out.below hb3
      have HB03 := Lib.hid hb03
      have HOWN3 := Lib.hid hown3
      have HT' := Lib.hid ht'
      have HA2 := Lib.hid ha'
      clear hb3 hb03 hown3 ht' ha' HB02 HOWN2
      have c0 := HOWN3.out.c0
      have c1 := HOWN3.out.c1
      have z0 := HOWN3.out.z0
      have z1 := HOWN3.out.z1
      cases hok : (withF (byt t) (byt a) (wrdF (zs.drop k))).2.2 with
      | false =>
        have hres : takeP zs = ([], [], 0, false) := by rw [HGO.out, goP_bad _ _ _ _ _ _ HQ.out hok]
        have HRES := Lib.hid hres
        clear hok hres hrun
        go_wp2_with fail
        obtain ⟨Y, hY⟩ : ∃ Y, ((((W3.setCell ⟨w.heap.size, 0, none⟩ (.string t')).setCell ⟨w.heap.size, 1, none⟩ (.string a')).setCell ⟨w.heap.size, 0, none⟩ (.string ⟨#[]⟩)).setCell ⟨w.heap.size, 1, none⟩ (.string ⟨#[]⟩)) = Y := ⟨_, rfl⟩
        have hy : Own2 Y w.heap.size 25 ⟨#[]⟩ ⟨#[]⟩ := by rw [← hY]; exact HOWN3.out.set.set
        have hyb : Below w.heap.size w Y := by rw [← hY]; exact set2_below (set2_below HB03.out (Nat.le_refl _)) (Nat.le_refl _)
        rw [hY]
        clear hY c0 c1 z0 z1
        have c0 := hy.c0
        have c1 := hy.c1
        exact bodyPost_ret (v := .tuple #[.agg #[.string ⟨#[]⟩, .string ⟨#[]⟩], .int .i64 0, .bool false]) (by simp [results, Try.results9, go_sem, c0, c1]) rfl ⟨⟨#[]⟩, ⟨#[]⟩, by rw [HRES.out]; rfl, by rw [HRES.out]; rfl, by rw [HRES.out]; rfl, hyb⟩
      | true =>
        have hgn := goP_next f _ k m _ _ HQ.out hok
        rw [← HGO.out, ← HSZ.out, ← HT'.out, ← HA2.out] at hgn
        simp only [List.drop_drop] at hgn
        obtain ⟨p, hp⟩ : ∃ p, s.size = p := ⟨_, rfl⟩
        rw [hp] at hwl hwp hgn
        obtain ⟨A2, hrun2, hA2, hrd2⟩ := slice_lI A n c (k + p) ((k : Int) + (p : Int)) (by omega) zs HL.out hnc HA.out (by omega)
        have HRD2 := Lib.hid hrd2
        have HA22 := Lib.hid hA2
        have HGN := Lib.hid hgn
        clear hgn hrd2 hA2 hrun hok
        go_wp2_with fail
        have hb4 : Below w.heap.size w ((W3.setCell ⟨w.heap.size, 0, none⟩ (.string t')).setCell ⟨w.heap.size, 1, none⟩ (.string a')) := set2_below HB03.out (Nat.le_refl _)
        have hown4 : Own2 ((W3.setCell ⟨w.heap.size, 0, none⟩ (.string t')).setCell ⟨w.heap.size, 1, none⟩ (.string a')) w.heap.size 25 t' a' := HOWN3.out.set
        refine (blanks_any A2 (n - (k + p)) (c - (k + p)) (zs.drop (k + p)) _ (by rw [List.length_drop, HL.out]) (by omega) (by omega) (HRD2.out _ (HR.out.below hb4))).mono ?_
        rintro e W4 ⟨rfl, rfl⟩
        have HB4 := Lib.hid hb4
        have HOWN4 := Lib.hid hown4
        have hq := blk_len (zs.drop (k + p))
        rw [List.length_drop, HL.out] at hq
        generalize blkF (zs.drop (k + p)) = q at *
        clear hb4 hown4
        go_wp2_with fail
        go_roundw
        case rel => exact ⟨k + p + q, k + p, by omega, by omega, by go_num, by go_num, f, t', a', by omega, HGN.out, HOWN4.out, HB4.out⟩
        case measure => simp [intOf]; omega

/-! ### As a law calls them -/
theorem take_txt {w W W' : World} {u : ByteArray} {cap : Nat} (B : Bytes W u cap W') (hb : Below w.heap.size w W) (hu : u.size ≤ 1000000) (zs : List Int) (hz : byt u = zs) :
    Calls Try.prog 9 #[.slice (some ⟨W.heap.size, 0, none⟩) u.size cap] W' (TakeP zs w) := by
  subst hz
  have hb2 := below_step hb B.below
  refine (take_any _ u.size cap (byt u) W' (byt_len u) B.le B.max (fun h => by cases h) (byt_byte u) B.rd).mono ?_
  rintro e w' ⟨t, a, ht, ha, rfl, h⟩
  exact ⟨t, a, ht, ha, rfl, below_step hb2 h⟩
theorem alias_txt {w W W' : World} {u : ByteArray} {cap : Nat} (B : Bytes W u cap W') (hb : Below w.heap.size w W) (hu : u.size ≤ 1000000) (zs : List Int) (hz : byt u = zs) :
    Calls Try.prog 11 #[.slice (some ⟨W.heap.size, 0, none⟩) u.size cap] W' (AliasP zs w) := by
  subst hz
  have hb2 := below_step hb B.below
  refine (takeAlias_any _ u.size cap (byt u) W' (byt_len u) B.le B.max (fun h => by cases h) (byt_byte u) B.rd).mono ?_
  rintro e w' ⟨t, ht, rfl, h⟩
  exact ⟨t, ht, rfl, below_step hb2 h⟩
theorem put_txt {w W : World} {t a : ByteArray} (hb : Below w.heap.size w W) (ht : t.size ≤ 1000000) (ha : a.size ≤ 1000000) (zs : List Int) (hz : putF (byt t) (byt a) = zs) : Calls Try.prog 19 #[.agg #[.string t, .string a]] W (StrB zs w) := by
  subst hz
  refine (put_any t a ht ha W).mono ?_
  rintro e w' ⟨s, hs, rfl, h⟩
  exact ⟨s, hs, rfl, below_step hb h⟩
def wkL : List Int := [38, 97, 32, 33, 33, 115, 116, 114, 32, 120]
theorem take_wk : takeP wkL = ([33, 33, 115, 116, 114], [97], 8, true) := by decide +kernel
set_option maxHeartbeats 1000000 in
theorem wakes_any (w : World) : Calls Try.prog 10 #[] w fun e w' => e = .returned (.bool true) ∧ Below w.heap.size w w' := by
  have kc := fun (w : World) (C : Array Value) (n c : Nat) => Lib.run_convert_bytes_const (P := Try.prog) w 28 5 C n c Try.underlying28 Try.underlying5
  have hwk : ∀ z ∈ wkL, 0 ≤ z ∧ z < 256 := by decide
  obtain ⟨V, hV⟩ : ∃ V, w.alloc (.cells #[.int .u8 38, .int .u8 97, .int .u8 32, .int .u8 33, .int .u8 33, .int .u8 115, .int .u8 116, .int .u8 114, .int .u8 32, .int .u8 120] 5 (10, 11)) = V := ⟨_, rfl⟩
  have hbel : Below w.heap.size w V := by rw [← hV]; exact (Below.refl _ _).alloc (Nat.le_refl _) _
  have hrd : RdB V (some ⟨w.heap.size, 0, none⟩) wkL := by
    rw [← hV]
    refine RdB.new rfl fun k z hz => ?_
    have : (#[.int .u8 38, .int .u8 97, .int .u8 32, .int .u8 33, .int .u8 33, .int .u8 115, .int .u8 116, .int .u8 114, .int .u8 32, .int .u8 120] : Array Value) = (wkL.map (Value.int .u8)).toArray := rfl
    rw [this]; simp [hz]
  have H := take_any (some ⟨w.heap.size, 0, none⟩) 10 10 wkL V rfl (by omega) (by omega) (fun h => by cases h) hwk hrd
  unfold TakeP at H
  rw [take_wk] at H
  have HH := Lib.hid H
  have HBEL := Lib.hid hbel
  clear H hbel hrd hwk
  go_enter Try.func10, Try.ntmps10
  go_wp2_with fail
  refine HH.out.mono ?_
  rintro e W ⟨t, a, ht, ha, rfl, hb⟩
  clear kc hV
  have HB := Lib.hid (below_step HBEL.out hb)
  have ht' : t = ⟨#[33, 33, 115, 116, 114]⟩ := byt_inj ht
  have ha' : a = ⟨#[97]⟩ := byt_inj ha
  subst ht' ha'
  clear ht ha hb HH
  simp only [show ((8 : Nat) : Int) = 8 from rfl]
  go_wp2_with fail
  go_ret
  exact ⟨rfl, HB.out.alloc HB.out.size _⟩
theorem wakes_at {w W : World} (hb : Below w.heap.size w W) : Calls Try.prog 10 #[] W fun e w' => e = .returned (.bool true) ∧ Below w.heap.size w w' := by
  refine (wakes_any W).mono ?_
  rintro e w' ⟨rfl, h⟩
  exact ⟨rfl, below_step hb h⟩
end Go.Proofs.Ytpmikhhnnjhiaaa
