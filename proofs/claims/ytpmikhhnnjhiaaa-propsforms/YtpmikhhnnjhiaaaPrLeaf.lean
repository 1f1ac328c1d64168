/- The contracts of strings.CutPrefix, strings.TrimPrefix, bytes.CutPrefix, bytes.Index, bytes.Cut at one byte; props.begins, firstWord, blanks, letters. -/
import Derived.Test.YtpmikhhnnjhiaaaPrPure
import Derived.Test.YtpmikhhnnjhiaaaIxByte
namespace Go.Proofs.Ytpmikhhnnjhiaaa
open Go.RowKit
set_option linter.unusedVariables false
set_option maxRecDepth 100000

theorem list_byt (s t : ByteArray) : (s.toList == t.toList) = (byt s == byt t) := by
  have := str_eq (byt s) (byt_byte s) t
  rwa [strOfNums_byt] at this
theorem empty_byt (s : ByteArray) : s.toList.isEmpty = (byt s).isEmpty := by
  have := list_byt s ⟨#[]⟩
  rw [show byt ⟨#[]⟩ = [] from rfl, show (⟨#[]⟩ : ByteArray).toList = [] from by rw [Lib.toList_data]] at this
  apply bool_iff
  rw [List.isEmpty_iff, List.isEmpty_iff]
  constructor
  · intro h; rw [h] at this; exact beq_iff_eq.1 this.symm
  · intro h; rw [h] at this; exact beq_iff_eq.1 this
theorem byt_tail (s : ByteArray) : byt (s.extract 1 s.size) = (byt s).drop 1 := by
  rw [byt_extract, List.take_of_length_le (by rw [List.length_drop, byt_len]; omega)]

set_option maxHeartbeats 1000000 in
theorem hasPfx_at (s p : ByteArray) (c : Int) (hp : byt p = [c]) (hs : s.size ≤ maxLen) (w : World) (v : Bool) (hv : (cutF c (byt s)).2 = v) :
    Calls Try.prog 43 #[.string s, .string p] w fun e w' => e = .returned (.bool v) ∧ w = w' := by
  unfold maxLen at hs
  have hp1 : p.size = 1 := by rw [← byt_len, hp]; rfl
  have h1 : (p.size : Int) ≤ 1 := by omega
  have h2 : 1 ≤ (p.size : Int) := by omega
  rw [cut_at, byt_len] at hv
  by_cases h : 1 ≤ s.size
  · have d1 : (p.size : Int) ≤ (s.size : Int) := by omega
    have hx : ((s.extract 0 p.size).toList == p.toList) = v := by
      rw [list_byt, byt_extract, hp1, hp, ← hv, decide_eq_true h]; rfl
    have HX := Lib.hid hx
    clear hv hx hp hp1
    go_enter Try.func43, Try.ntmps43
    go_wp2
    go_ret
    exact ⟨ret_bool HX.out, rfl⟩
  · have d1 : decide ((p.size : Int) ≤ (s.size : Int)) = false := decide_eq_false (by omega)
    rw [decide_eq_false h] at hv
    obtain rfl : v = false := hv.symm
    clear hv hp hp1
    go_enter Try.func43, Try.ntmps43
    go_wp2
    go_ret
    exact ⟨rfl, rfl⟩
/-- What is behind a sign, and whether it was there. -/
def CutP (c : Int) (s : ByteArray) (w : World) (e : Ending) (w' : World) : Prop := ∃ t : ByteArray, byt t = (cutF c (byt s)).1 ∧ t.size ≤ s.size ∧ e = .returned (.tuple #[.string t, .bool (cutF c (byt s)).2]) ∧ w = w'
set_option maxHeartbeats 1000000 in
theorem cutPfx_lite (s p : ByteArray) (c : Int) (hp : byt p = [c]) (hs : s.size ≤ maxLen) (w : World) :
    Calls Try.prog 38 #[.string s, .string p] w (CutP c s w) := by
  have hp1 : p.size = 1 := by rw [← byt_len, hp]; rfl
  unfold CutP
  cases hv : (cutF c (byt s)).2 with
  | true =>
    have hsz : 1 ≤ s.size := by have := cut_len c (byt s) hv; rwa [byt_len] at this
    have hb : byt (s.extract p.size s.size) = (cutF c (byt s)).1 := by rw [hp1, byt_tail, cut_drop c _ hv]
    have HB := Lib.hid hb
    have h1 : p.size ≤ s.size := by omega
    have h2 : (p.size : Int) ≤ (s.size : Int) := by omega
    have HP := Lib.hid (hasPfx_at s p c hp hs w true hv)
    have hs' := hs
    unfold maxLen at hs'
    clear hv hp hp1 hb
    go_enter Try.func38, Try.ntmps38
    go_wp2_with (go_at_call 43; refine HP.out.mono ?_; rintro e w' ⟨rfl, rfl⟩)
    go_ret2
    exact ⟨_, HB.out, by simp [ByteArray.size_extract], rfl, rfl⟩
  | false =>
    have HP := Lib.hid (hasPfx_at s p c hp hs w false hv)
    have HB := Lib.hid (cut_false c (byt s) hv)
    clear hv hp hp1
    go_enter Try.func38, Try.ntmps38
    go_wp2_with (go_at_call 43; refine HP.out.mono ?_; rintro e w' ⟨rfl, rfl⟩)
    go_ret2
    exact ⟨s, HB.out.symm, Nat.le_refl _, rfl, rfl⟩
set_option maxHeartbeats 1000000 in
theorem cutPfx_any (s p : ByteArray) (c : Int) (hp : byt p = [c]) (hs : s.size ≤ maxLen) (w : World) :
    Calls Try.prog 32 #[.string s, .string p] w (CutP c s w) := by
  have H := Lib.hid (cutPfx_lite s p c hp hs w)
  clear hp
  go_enter Try.func32, Try.ntmps32
  go_wp2_with fail
  refine H.out.mono ?_
  rintro e w' ⟨t, ht, hz, rfl, rfl⟩
  have HT := Lib.hid ht
  clear ht
  go_wp2_with fail
  go_ret2
  exact ⟨t, HT.out, hz, rfl, rfl⟩
/-- What is behind a sign, or all. -/
def TrimP (c : Int) (s : ByteArray) (w : World) (e : Ending) (w' : World) : Prop := ∃ t : ByteArray, byt t = (cutF c (byt s)).1 ∧ t.size ≤ s.size ∧ e = .returned (.string t) ∧ w = w'
set_option maxHeartbeats 1000000 in
theorem trimPfx_lite (s p : ByteArray) (c : Int) (hp : byt p = [c]) (hs : s.size ≤ maxLen) (w : World) :
    Calls Try.prog 39 #[.string s, .string p] w (TrimP c s w) := by
  have hp1 : p.size = 1 := by rw [← byt_len, hp]; rfl
  unfold TrimP
  cases hv : (cutF c (byt s)).2 with
  | true =>
    have hsz : 1 ≤ s.size := by have := cut_len c (byt s) hv; rwa [byt_len] at this
    have hb : byt (s.extract p.size s.size) = (cutF c (byt s)).1 := by rw [hp1, byt_tail, cut_drop c _ hv]
    have HB := Lib.hid hb
    have h1 : p.size ≤ s.size := by omega
    have h2 : (p.size : Int) ≤ (s.size : Int) := by omega
    have HP := Lib.hid (hasPfx_at s p c hp hs w true hv)
    have hs' := hs
    unfold maxLen at hs'
    clear hv hp hp1 hb
    go_enter Try.func39, Try.ntmps39
    go_wp2_with (go_at_call 43; refine HP.out.mono ?_; rintro e w' ⟨rfl, rfl⟩)
    go_ret
    exact ⟨_, HB.out, by simp [ByteArray.size_extract], rfl, rfl⟩
  | false =>
    have HP := Lib.hid (hasPfx_at s p c hp hs w false hv)
    have HB := Lib.hid (cut_false c (byt s) hv)
    clear hv hp hp1
    go_enter Try.func39, Try.ntmps39
    go_wp2_with (go_at_call 43; refine HP.out.mono ?_; rintro e w' ⟨rfl, rfl⟩)
    go_ret
    exact ⟨s, HB.out.symm, Nat.le_refl _, rfl, rfl⟩
set_option maxHeartbeats 1000000 in
theorem trimPfx_any (s p : ByteArray) (c : Int) (hp : byt p = [c]) (hs : s.size ≤ maxLen) (w : World) :
    Calls Try.prog 33 #[.string s, .string p] w (TrimP c s w) := by
  have H := Lib.hid (trimPfx_lite s p c hp hs w)
  clear hp
  go_enter Try.func33, Try.ntmps33
  go_wp2_with fail
  refine H.out.mono ?_
  rintro e w' ⟨t, ht, hz, rfl, rfl⟩
  have HT := Lib.hid ht
  clear ht
  go_wp2_with fail
  go_ret
  exact ⟨t, HT.out, hz, rfl, rfl⟩

set_option maxHeartbeats 1000000 in
/-- Bytes behind a sign. -/
theorem cutPfxB_any (A B : Option Addr) (n c d : Nat) (zs : List Int) (x : Int) (w : World) (hl : zs.length = n) (hnc : n ≤ c) (hm : c ≤ 9223372036854775807) (hA : A = none → c = 0) (hr : RdB w A zs) (hx : RdB w B [x]) (hbz : Byte zs) (hbx : Byte [x]) :
    Calls Try.prog 26 #[.slice A n c, .slice B 1 d] w fun e w' => ∃ A' n' c', n' = (cutF x zs).1.length ∧ n' ≤ c' ∧ c' ≤ 9223372036854775807 ∧ (A' = none → c' = 0) ∧ RdB w A' (cutF x zs).1 ∧ e = .returned (.tuple #[.slice A' n' c', .bool (cutF x zs).2]) ∧ w = w' := by
  have hv := cut_at x zs
  cases hc : (cutF x zs).2 with
  | true =>
    have h1 : 1 ≤ n := by rw [← hl]; exact cut_len x zs hc
    have d1 : (1 : Int) ≤ (n : Int) := by omega
    obtain ⟨A', hrun, hA', hrd⟩ := slice_l A n c 1 zs hl hnc hA h1
    have HP := Lib.hid (hasPrefix_any A B n c 1 d zs [x] w hl rfl (by omega) hnc hm hr hx hbz hbx true (by rw [← hc, hv, ← hl]))
    have HR : Hid (RdB w A' (cutF x zs).1) := by show RdB _ _ _; rw [cut_drop x zs hc]; exact hrd w hr
    have HL : Hid (n - 1 = (cutF x zs).1.length) := by show _ = _; rw [cut_drop x zs hc, List.length_drop, hl]
    have HA' := Lib.hid hA'
    simp only [show ((1 : Nat) : Int) = 1 from rfl] at hrun
    clear hr hx hbz hbx hv hc hrd hl hA hA'
    go_enter Try.func26, Try.ntmps26
    go_wp2_with (go_at_call 36; refine HP.out.mono ?_; rintro e w' ⟨rfl, rfl⟩)
    go_ret2
    exact ⟨A', n - 1, c - 1, HL.out, by omega, by omega, HA'.out, HR.out, rfl, rfl⟩
  | false =>
    have HP := Lib.hid (hasPrefix_any A B n c 1 d zs [x] w hl rfl (by omega) hnc hm hr hx hbz hbx false (by rw [← hc, hv, ← hl]))
    have HR : Hid (RdB w A (cutF x zs).1) := by show RdB _ _ _; rw [cut_false x zs hc]; exact hr
    have HL : Hid (n = (cutF x zs).1.length) := by show _ = _; rw [cut_false x zs hc, hl]
    have HA := Lib.hid hA
    clear hr hx hbz hbx hv hc hl hA
    go_enter Try.func26, Try.ntmps26
    go_wp2_with (go_at_call 36; refine HP.out.mono ?_; rintro e w' ⟨rfl, rfl⟩)
    go_ret2
    exact ⟨A, n, c, HL.out, by omega, by omega, HA.out, HR.out, rfl, rfl⟩

set_option maxHeartbeats 1000000 in
theorem index_one (A : Option Addr) (b off : Nat) (n c d : Nat) (zs : List Int) (x : Int) (w : World) (hl : zs.length = n) (hr : RdB w A zs) (hx : w.cell? ⟨b, off, none⟩ = some (.int .u8 x)) (hd : 1 ≤ d) (hd' : d ≤ 9223372036854775807) (hbz : Byte zs) (hbx : 0 ≤ x ∧ x < 256) :
    Calls Try.prog 40 #[.slice A n c, .slice (some ⟨b, off, none⟩) 1 d] w fun e w' => e = .returned (.int .i64 (ixC x zs)) ∧ w = w' := by
  have H := Lib.hid (indexByteC_any x hbx A n c zs w hl hbz hr (ixC x zs) rfl)
  clear hl hr hbz
  go_enter Try.func40, Try.ntmps40
  go_wp2_with fail
  refine H.out.mono ?_
  rintro e w' ⟨rfl, rfl⟩
  go_wp2_with fail
  go_ret
  exact ⟨rfl, rfl⟩
theorem ix_word (zs : List Int) : (ixC 32 zs = -1 ∧ wrdF zs = zs) ∨ (∃ k : Nat, ixC 32 zs = (k : Int) ∧ k < zs.length ∧ wrdF zs = zs.take k) := by
  unfold ixC
  split
  · rename_i h
    exact .inr ⟨_, rfl, h, wrd_take zs⟩
  · rename_i h
    exact .inl ⟨rfl, by rw [wrd_take, List.take_of_length_le (by omega)]⟩
set_option maxHeartbeats 1000000 in
theorem cutB_word (A : Option Addr) (b off : Nat) (n c d : Nat) (zs : List Int) (w : World) (hl : zs.length = n) (hnc : n ≤ c) (hm : c ≤ 9223372036854775807) (hA : A = none → c = 0) (hr : RdB w A zs) (hx : w.cell? ⟨b, off, none⟩ = some (.int .u8 32)) (hd : 1 ≤ d) (hd' : d ≤ 9223372036854775807) (hbz : Byte zs) :
    Calls Try.prog 35 #[.slice A n c, .slice (some ⟨b, off, none⟩) 1 d] w fun e w' => ∃ u v, e = .returned (.tuple #[.slice A (wrdF zs).length c, u, .bool v]) ∧ Below w.heap.size w w' := by
  have H := Lib.hid (index_one A b off n c d zs 32 w hl hr hx hd hd' hbz (by omega))
  rcases ix_word zs with ⟨h1, h2⟩ | ⟨k, h1, h2, h3⟩
  · rw [h2, hl]
    rw [h1] at H
    clear h1 h2 hl hr hx hbz hA
    go_enter Try.func35, Try.ntmps35
    go_wp2_with fail
    refine H.out.mono ?_
    rintro e w' ⟨rfl, rfl⟩
    go_wp2_with fail
    go_ret3
    exact ⟨_, _, rfl, Below.refl _ _⟩
  · rw [h3, List.length_take, Nat.min_eq_left (by omega)]
    rw [h1] at H
    have e1 := slice_h A n c k (by omega) hnc hA
    obtain ⟨A', e2, -, -⟩ := slice_lI A n c (k + 1) ((k : Int) + 1) (by omega) zs hl hnc hA (by omega)
    have d0 : (0 : Int) ≤ (k : Int) := by omega
    clear h1 h3 hr hx hbz hA
    go_enter Try.func35, Try.ntmps35
    go_wp2_with fail
    refine H.out.mono ?_
    rintro e w' ⟨rfl, rfl⟩
    go_wp2_with fail
    go_quiet (fail)
    go_wp2_with fail
    go_ret3
    exact ⟨_, _, rfl, below_draws (Below.refl _ _) _⟩
end Go.Proofs.Ytpmikhhnnjhiaaa
