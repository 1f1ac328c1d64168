/- The contracts of package tail: Marker, Rest; bytes.Clone; the document's example. -/
import Derived.Test.YtjdmbldbbohdbaaTlMain
import Derived.Lib.SliceRun
namespace Go.Proofs.Ytjdmbldbbohdbaa
open Go.RowKit
set_option linter.unusedVariables false

theorem three_new (w : World) (x : Int) : RdB (w.alloc (.cells #[.int .u8 x, .int .u8 x, .int .u8 x] 5 (3, 4))) (some ⟨w.heap.size, 0, none⟩) [x, x, x] := RdB.new rfl three_at
def MrkP (zs : List Int) (w : World) (e : Ending) (w' : World) : Prop := e = .returned (.int .i64 (mrkF zs)) ∧ Below w.heap.size w w'
set_option maxHeartbeats 2000000 in
theorem mark_any (A : Option Addr) (n c : Nat) (zs : List Int) (w : World) (hl : zs.length = n) (hnc : n ≤ c) (hm : c ≤ 9223372036854775807) (hA : A = none → c = 0) (hr : RdB w A zs) (hb : Byte zs) :
    Calls Try.prog 9 #[.slice A n c] w (MrkP zs w) := by
  have kc := fun (w : World) (C : Array Value) (n c : Nat) => Lib.run_convert_bytes_const (P := Try.prog) w 24 5 C n c Try.underlying24 Try.underlying5
  obtain ⟨V, hV⟩ : ∃ V, w.alloc (.cells #[.int .u8 45, .int .u8 45, .int .u8 45] 5 (3, 4)) = V := ⟨_, rfl⟩
  have hbel : Below w.heap.size w V := by rw [← hV]; exact (Below.refl _ _).alloc (Nat.le_refl _) _
  have hrd : RdB V (some ⟨w.heap.size, 0, none⟩) [45, 45, 45] := by rw [← hV]; exact three_new w 45
  have hrz := hr.below hbel
  have h45 : Byte [45, 45, 45] := by unfold Byte; decide
  have h46 : Byte [46, 46, 46] := by unfold Byte; decide
  have e0 : mrkF zs = if pfxF [45, 45, 45] zs then mkF (zs.drop 3) 1 else if pfxF [46, 46, 46] zs then mkF (zs.drop 3) 2 else 0 := rfl
  have C1 := Lib.hid (cutPrefix_any A (some ⟨w.heap.size, 0, none⟩) n c 3 3 zs [45, 45, 45] V hl rfl (by omega) hnc hm hA hrz hrd hb h45 _ rfl)
  have HBEL := Lib.hid hbel
  unfold MrkP
  cases hp : pfxF [45, 45, 45] zs with
  | true =>
    rw [hp] at C1 e0
    have E0 := Lib.hid e0
    have HR := Lib.hid hrz
    have HB := Lib.hid hb
    have HL := Lib.hid hl
    clear hbel hrd hrz hr h45 h46 e0 hp hA hb hl
    go_enter Try.func9, Try.ntmps9
    go_wp2_with fail
    refine C1.out.mono ?_
    rintro e W ⟨rfl, A', rfl, h⟩
    obtain ⟨h3, hA', hr'⟩ := h rfl
    have HM := Lib.hid (tmarker_any A' (n - 3) (c - 3) (zs.drop 3) V 1 (by rw [List.length_drop, HL.out]) (by omega) (by omega) hr' _ rfl)
    clear hA' hr' h C1 kc hV
    go_wp2_with (go_at_call 22; refine HM.out.mono ?_; rintro e w' ⟨rfl, rfl⟩)
    go_ret
    exact ⟨ret_int E0.out.symm, HBEL.out⟩
  | false =>
    obtain ⟨U, hU⟩ : ∃ U, V.alloc (.cells #[.int .u8 46, .int .u8 46, .int .u8 46] 5 (3, 4)) = U := ⟨_, rfl⟩
    have hbU : Below V.heap.size V U := by rw [← hU]; exact (Below.refl _ _).alloc (Nat.le_refl _) _
    have hrd2 : RdB U (some ⟨V.heap.size, 0, none⟩) [46, 46, 46] := by rw [← hU]; exact three_new V 46
    have hrz2 := hrz.below hbU
    have C2 := Lib.hid (cutPrefix_any A (some ⟨V.heap.size, 0, none⟩) n c 3 3 zs [46, 46, 46] U hl rfl (by omega) hnc hm hA hrz2 hrd2 hb h46 _ rfl)
    have HBU := Lib.hid (below_step hbel hbU)
    rw [hp] at C1 e0
    have HL := Lib.hid hl
    cases hp2 : pfxF [46, 46, 46] zs with
    | true =>
      rw [hp2] at C2 e0
      have E0 := Lib.hid e0
      clear hbel hrd hrz hr h45 h46 e0 hp hA hb hl hrd2 hrz2 hbU hp2
      go_enter Try.func9, Try.ntmps9
      go_wp2_with fail
      refine C1.out.mono ?_
      rintro e W ⟨rfl, A', rfl, h⟩
      clear h C1
      go_wp2_with fail
      refine C2.out.mono ?_
      rintro e W ⟨rfl, A'', rfl, h⟩
      obtain ⟨h3, hA', hr'⟩ := h rfl
      have HM := Lib.hid (tmarker_any A'' (n - 3) (c - 3) (zs.drop 3) U 2 (by rw [List.length_drop, HL.out]) (by omega) (by omega) hr' _ rfl)
      clear hA' hr' h C2 kc hV hU
      go_wp2_with (go_at_call 22; refine HM.out.mono ?_; rintro e w' ⟨rfl, rfl⟩)
      go_ret
      exact ⟨ret_int E0.out.symm, HBU.out⟩
    | false =>
      rw [hp2] at C2 e0
      have E0 := Lib.hid e0
      clear hbel hrd hrz hr h45 h46 e0 hp hA hb hl hrd2 hrz2 hbU hp2
      go_enter Try.func9, Try.ntmps9
      go_wp2_with fail
      refine C1.out.mono ?_
      rintro e W ⟨rfl, A', rfl, h⟩
      clear h C1
      go_wp2_with fail
      refine C2.out.mono ?_
      rintro e W ⟨rfl, A'', rfl, h⟩
      clear h C2 kc hV hU
      go_wp2_with fail
      go_ret
      exact ⟨ret_int E0.out.symm, HBU.out⟩

/-- An append of bytes to an empty row: all that the new block holds. -/
theorem run_append_fresh (w : World) (p : Addr) (A : Option Addr) (m c : Nat) (ys : List Int) (hm : ys.length = m) (h0 : 0 < m) (hr : RdB w A ys) (hsz : m ≤ 1000000000) :
    ∃ cap us, m ≤ cap ∧ cap ≤ 9223372036854775807 ∧ (ys ++ us).length = cap ∧ (Builtin.append_ #[24, 24] 24 #[.slice (some p) 0 0, .slice A m c]).run Try.prog w = .ok (.slice (some ⟨w.heap.size, 0, none⟩) m cap) (w.drew.alloc (.cells (cellsB (ys ++ us)) 5)) := by
  obtain ⟨i, hi, hz, h2, h3⟩ := info_parts byte_info
  obtain ⟨b, off, rfl, hc⟩ := hr.addr (by omega)
  have hrun := run_append_grow (P := Try.prog) w 24 24 5 i _ Try.underlying24 hi hz p 0 0 [] (by simp) (by intro j v h; simp at h) ⟨b, off, none⟩ m c (ys.map (Value.int .u8)) (by rw [h2]; simp [hm]) (by
    intro j v hj
    rw [add_plain]
    obtain ⟨b', off', e, h⟩ := hr.toC j v hj
    injection e with e
    injection e with e1 e2
    subst e1 e2
    exact h) (by omega) (by omega) (by
      rw [h3]
      simp [Builtin.nextslicecap]; split <;> omega)
  have hge := grownCap_ge w (0 + m) 0 5
  have hcm := grownCap_le_maxLen w (0 + m) 0 5 (by unfold maxLen; omega)
  unfold maxLen at hcm
  rw [Nat.zero_add] at hrun hge hcm
  refine ⟨grownCap w m 0 5, List.replicate (grownCap w m 0 5 - m) 0, hge, by omega, by simp; omega, ?_⟩
  rw [hrun]
  congr 3
  apply Array.toList_inj.1
  have : (Value.int IntKind.u8 0).cells = #[.int .u8 0] := rfl
  rw [this]
  simp [cellsB, Builtin.zeroCells]
  rw [List.eq_replicate_iff]
  refine ⟨by simp, fun b hb => ?_⟩
  rw [List.mem_map] at hb
  obtain ⟨k, _, rfl⟩ := hb
  rw [Nat.mod_one]
  rfl
set_option maxHeartbeats 1000000 in
theorem clone_any (A : Option Addr) (n c : Nat) (zs : List Int) (w : World) (hl : zs.length = n) (hn : n ≤ 1000000000) (hr : RdB w A zs) :
    Calls Try.prog 23 #[.slice A n c] w (FreshB w zs) := by
  have hq := fun (W : World) (A : Option Addr) (n c : Nat) => Lib.run_eql_slice_nil (P := Try.prog) W 24 5 A n c 0 0 Try.underlying24
  subst hl
  cases A with
  | none =>
    have := hr.none_
    subst this
    go_enter Try.func23, Try.ntmps23
    go_wp2
    go_ret
    exact ⟨none, 0, rfl, Nat.le_refl _, by omega, fun _ => rfl, RdB.nil _ _, Below.refl _ _, .inl rfl⟩
  | some a =>
    have hb1 : Below w.heap.size w (w.alloc (.cells #[] 5)) := (Below.refl _ _).alloc (Nat.le_refl _) _
    by_cases h0 : zs.length = 0
    · obtain rfl : zs = [] := List.eq_nil_of_length_eq_zero h0
      have HB := Lib.hid hb1
      clear hb1 hr h0
      go_enter Try.func23, Try.ntmps23
      go_wp2_with fail
      go_ret
      exact ⟨some ⟨w.heap.size, 0, none⟩, 0, rfl, Nat.le_refl _, by omega, (fun h => by cases h), RdB.nil _ _, HB.out, .inl rfl⟩
    · obtain ⟨cap, us, h1, h2, h3, hrun⟩ := run_append_fresh (w.alloc (.cells #[] 5)) ⟨w.heap.size, 0, none⟩ (some a) zs.length c zs rfl (by omega) (hr.below hb1) hn
      have HRUN := Lib.hid hrun
      have HB := Lib.hid hb1
      clear hrun hb1 hr
      go_enter Try.func23, Try.ntmps23
      go_wp2_with (at_builtin; refine wpList_append_known rfl _ (.tmp 6) 24 rfl (.slice (some ⟨w.heap.size, 0, none⟩) 0 0) (.slice (some a) zs.length c) _ _ rfl rfl HRUN.out ?_)
      go_ret
      have ho : OwnB (((w.alloc (.cells #[] 5)).alloc (.cells (cellsB (zs ++ us)) 5)).drew) (w.heap.size + 1) (zs ++ us) := by
        have := OwnB.new (w.alloc (.cells #[] 5)) (zs ++ us)
        rw [show (w.alloc (.cells #[] 5)).heap.size = w.heap.size + 1 by simp] at this
        exact this
      have hrd := ho.rd.take zs.length
      rw [List.take_left' rfl] at hrd
      exact ⟨some ⟨w.heap.size + 1, 0, none⟩, cap, rfl, h1, h2, (fun h => by cases h), hrd, (HB.out.alloc (by simp) _).drew, .inr ⟨_, us, rfl, by omega, ho, h3⟩⟩
set_option maxHeartbeats 1000000 in
theorem rest_any (A : Option Addr) (n c : Nat) (zs : List Int) (w : World) (hl : zs.length = n) (hn : n ≤ 1000000000) (hnc : n ≤ c) (hm : c ≤ 9223372036854775807) (hA : A = none → c = 0) (hr : RdB w A zs) :
    Calls Try.prog 12 #[.slice A n c] w (FreshB w (zs.drop (blkF zs))) := by
  have hk := blk_len zs
  rw [hl] at hk
  have HBL := Lib.hid (tblanks_any A n c zs w hl hnc hm hr)
  obtain ⟨A', hrun, h2, h3⟩ := slice_l A n c (blkF zs) zs hl hnc hA hk
  have HC := Lib.hid (clone_any A' (n - blkF zs) (c - blkF zs) (zs.drop (blkF zs)) w (by rw [List.length_drop, hl]) (by omega) (h3 w hr))
  clear h2 h3 hr hA hl
  generalize zs.drop (blkF zs) = ys at *
  generalize blkF zs = k at *
  go_enter Try.func12, Try.ntmps12
  go_wp2_with (go_at_call 24; refine HBL.out.mono ?_; rintro e w' ⟨rfl, rfl⟩)
  refine HC.out.mono ?_
  rintro e w' ⟨A2, cap, rfl, h⟩
  have H := Lib.hid h
  clear h HC hrun
  go_wp2_with fail
  go_ret
  exact ⟨A2, cap, rfl, H.out⟩

def wkT : List Int := [45, 45, 45, 32, 35, 32, 120]
set_option maxHeartbeats 1000000 in
theorem wakes_any (w : World) : Calls Try.prog 10 #[] w fun e w' => e = .returned (.bool true) ∧ Below w.heap.size w w' := by
  have kc := fun (w : World) (C : Array Value) (n c : Nat) => Lib.run_convert_bytes_const (P := Try.prog) w 24 5 C n c Try.underlying24 Try.underlying5
  have hwk : ∀ z ∈ wkT, 0 ≤ z ∧ z < 256 := by decide
  obtain ⟨V, hV⟩ : ∃ V, w.alloc (.cells #[.int .u8 45, .int .u8 45, .int .u8 45, .int .u8 32, .int .u8 35, .int .u8 32, .int .u8 120] 5 (7, 8)) = V := ⟨_, rfl⟩
  have hbel : Below w.heap.size w V := by rw [← hV]; exact (Below.refl _ _).alloc (Nat.le_refl _) _
  have hrd : RdB V (some ⟨w.heap.size, 0, none⟩) wkT := by
    rw [← hV]
    refine RdB.new rfl fun k z hz => ?_
    have : (#[.int .u8 45, .int .u8 45, .int .u8 45, .int .u8 32, .int .u8 35, .int .u8 32, .int .u8 120] : Array Value) = (wkT.map (Value.int .u8)).toArray := rfl
    rw [this]; simp [hz]
  have H := mark_any (some ⟨w.heap.size, 0, none⟩) 7 7 wkT V rfl (by omega) (by omega) (fun h => by cases h) hrd hwk
  unfold MrkP at H
  rw [show mrkF wkT = 1 by decide +kernel] at H
  have HH := Lib.hid H
  have HBEL := Lib.hid hbel
  clear H hbel hrd hwk
  go_enter Try.func10, Try.ntmps10
  go_wp2_with fail
  refine HH.out.mono ?_
  rintro e W ⟨rfl, hb⟩
  clear kc hV
  have HB := Lib.hid (below_step HBEL.out hb)
  clear hb HH
  go_wp2_with fail
  go_ret
  exact ⟨rfl, HB.out⟩
theorem wakes_at {w W : World} (hb : Below w.heap.size w W) : Calls Try.prog 10 #[] W fun e w' => e = .returned (.bool true) ∧ Below w.heap.size w w' := by
  refine (wakes_any W).mono ?_
  rintro e w' ⟨rfl, h⟩
  exact ⟨rfl, below_step hb h⟩
end Go.Proofs.Ytjdmbldbbohdbaa
