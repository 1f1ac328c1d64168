/- Chapter 10 (tags, anchors, aliases) as Lean functions on lists of numbers, and what they come to. No program. · The contracts of strings.CutPrefix, strings.TrimPrefix, bytes.CutPrefix, bytes.Index, bytes.Cut at one byte; props.begins, firstWord, blanks, letters. · props.begins, firstWord, blanks, letters, ValidTag, with, Put, TakeAlias. · props.Take. -/
import Derived.Test.YtnecapmnbaemiaaGreatDoorMA
set_option linter.unusedSimpArgs false
set_option linter.unusedVariables false
namespace Go.Proofs.YtnecapmnbaemiaaGreatDoor.Pr
open Go.RowKit
set_option linter.unusedVariables false
set_option maxRecDepth 100000
def cutF (c : Int) : List Int → List Int × Bool
  | x :: t => if x = c then (t, true) else (x :: t, false)
  | [] => ([], false)
def validF (l : List Int) : Bool := (cutF 33 l).2 && ((cutF 33 l).1.isEmpty || nameF (cutF 33 (cutF 33 l).1).1)
def withF (t a l : List Int) : List Int × List Int × Bool :=
  if (cutF 38 l).2 then (if a.isEmpty && nameF (cutF 38 l).1 then (t, (cutF 38 l).1, true) else ([], [], false))
  else (if t.isEmpty && validF l then (l, a, true) else ([], [], false))
def begF : List Int → Bool
  | x :: _ => x == 33 || x == 38
  | [] => false
def wrdF (l : List Int) : List Int := l.takeWhile (· != 32)
def goP : Nat → List Int → Nat → Nat → List Int → List Int → List Int × List Int × Nat × Bool
  | 0, _, _, n, t, a => (t, a, n, true)
  | f + 1, l, i, n, t, a => if begF l then
      (if (withF t a (wrdF l)).2.2 then goP f ((l.drop (wrdF l).length).drop (blkF (l.drop (wrdF l).length))) (i + (wrdF l).length + blkF (l.drop (wrdF l).length)) (i + (wrdF l).length) (withF t a (wrdF l)).1 (withF t a (wrdF l)).2.1
       else ([], [], 0, false))
    else (t, a, n, true)
def takeP (l : List Int) : List Int × List Int × Nat × Bool := goP (l.length + 1) l 0 0 [] []
/-- How many letters of a name stand at the beginning, at most m. -/
def ltrF : Nat → List Int → Nat
  | 0, _ => 0
  | m + 1, x :: t => if nmb x then ltrF m t + 1 else 0
  | _ + 1, [] => 0
def aliasF (l : List Int) : List Int × Nat × Bool :=
  if (cutF 42 l).2 && nameF ((cutF 42 l).1.take (ltrF 33 (cutF 42 l).1)) then ((cutF 42 l).1.take (ltrF 33 (cutF 42 l).1), 1 + ltrF 33 (cutF 42 l).1, true) else ([], 0, false)
def putF (t a : List Int) : List Int := if a.isEmpty then t else if t.isEmpty then 38 :: a else 38 :: a ++ 32 :: t
theorem cut_true (c : Int) (l : List Int) (h : (cutF c l).2 = true) : l = c :: (cutF c l).1 := by
  cases l with
  | nil => simp [cutF] at h
  | cons x t =>
    by_cases hx : x = c
    · subst hx; simp [cutF]
    · simp [cutF, hx] at h
theorem cut_false (c : Int) (l : List Int) (h : (cutF c l).2 = false) : (cutF c l).1 = l := by
  cases l with
  | nil => rfl
  | cons x t =>
    by_cases hx : x = c
    · subst hx; simp [cutF] at h
    · simp [cutF, hx]
theorem cut_drop (c : Int) (l : List Int) (h : (cutF c l).2 = true) : (cutF c l).1 = l.drop 1 := by
  have := cut_true c l h
  rw [this]; simp [cutF]
theorem cut_len (c : Int) (l : List Int) (h : (cutF c l).2 = true) : 1 ≤ l.length := by rw [cut_true c l h]; simp
theorem cut_at (c : Int) (l : List Int) : (cutF c l).2 = (decide (1 ≤ l.length) && l.take 1 == [c]) := by
  cases l with
  | nil => rfl
  | cons x t =>
    by_cases hx : x = c
    · subst hx; simp [cutF]
    · have : (x :: t).take 1 = [x] := rfl
      rw [this]
      simp [cutF, hx]
theorem wrd_len (l : List Int) : (wrdF l).length ≤ l.length := (List.takeWhile_sublist _).length_le
theorem wrd_take (l : List Int) : wrdF l = l.take (l.findIdx (· == 32)) := by
  unfold wrdF
  induction l with
  | nil => rfl
  | cons x t ih =>
    rw [List.takeWhile_cons, List.findIdx_cons]
    by_cases hx : x = 32
    · subst hx; simp
    · have h1 : (x != 32) = true := bne_iff_ne.2 hx
      have h2 : (x == 32) = false := beq_eq_false_iff_ne.2 hx
      rw [h1, h2]
      simp [ih]
theorem wrd_pos (l : List Int) (h : begF l = true) : 1 ≤ (wrdF l).length := by
  cases l with
  | nil => simp [begF] at h
  | cons x t =>
    simp only [begF] at h
    have : (x != 32) = true := by rw [bne_iff_ne]; rintro rfl; simp at h
    unfold wrdF
    rw [List.takeWhile_cons, this]
    simp
theorem ltr_len : ∀ (m : Nat) (l : List Int), ltrF m l ≤ l.length ∧ ltrF m l ≤ m := by
  intro m
  induction m with
  | zero => intro l; simp [ltrF]
  | succ m ih =>
    intro l
    cases l with
    | nil => simp [ltrF]
    | cons x t => simp only [ltrF]; have := ih t; split <;> simp <;> omega
theorem ltr_at {l : List Int} {k m : Nat} (h : k < l.length) : ltrF (m + 1) (l.drop k) = if nmb (l.getD k 0) then ltrF m (l.drop (k + 1)) + 1 else 0 := by rw [drop_cons_at h]; simp only [ltrF]
theorem ltr_end {l : List Int} {k m : Nat} (h : l.length ≤ k) : ltrF m (l.drop k) = 0 := by
  rw [List.drop_of_length_le h]; cases m <;> rfl
theorem goP_stop (f : Nat) (l : List Int) (i n : Nat) (t a : List Int) (h : begF l = false) : goP (f + 1) l i n t a = (t, a, n, true) := by
  simp only [goP, h]; rfl
theorem goP_bad (f : Nat) (l : List Int) (i n : Nat) (t a : List Int) (h : begF l = true) (h2 : (withF t a (wrdF l)).2.2 = false) : goP (f + 1) l i n t a = ([], [], 0, false) := by
  simp only [goP, h, h2]; rfl
theorem goP_next (f : Nat) (l : List Int) (i n : Nat) (t a : List Int) (h : begF l = true) (h2 : (withF t a (wrdF l)).2.2 = true) : goP (f + 1) l i n t a =
    goP f ((l.drop (wrdF l).length).drop (blkF (l.drop (wrdF l).length))) (i + (wrdF l).length + blkF (l.drop (wrdF l).length)) (i + (wrdF l).length) (withF t a (wrdF l)).1 (withF t a (wrdF l)).2.1 := by
  simp only [goP, h, h2]; rfl
theorem name_one (x : Int) : nameF [x] = nmb x := by simp [nameF]
theorem list_byt (s t : ByteArray) : (s.toList == t.toList) = (byt s == byt t) := by
  have := str_eq (byt s) (byt_byte s) t
  rwa [strOfNums_byt] at this
theorem empty_byt (s : ByteArray) : s.toList.isEmpty = (byt s).isEmpty := by
  have := list_byt s ⟨#[]⟩
  rw [show byt ⟨#[]⟩ = [] from rfl, show (⟨#[]⟩ : ByteArray).toList = [] from by rw [Lib.toList_data]] at this
  apply bool_iff
  rw [List.isEmpty_iff, List.isEmpty_iff]
  constructor
  · intro h; rw [h] at this; exact beq_iff_eq.1 this.symm
  · intro h; rw [h] at this; exact beq_iff_eq.1 this
theorem byt_tail (s : ByteArray) : byt (s.extract 1 s.size) = (byt s).drop 1 := by
  rw [byt_extract, List.take_of_length_le (by rw [List.length_drop, byt_len]; omega)]
set_option maxHeartbeats 1000000 in
theorem hasPfx_at (s p : ByteArray) (c : Int) (hp : byt p = [c]) (hs : s.size ≤ maxLen) (w : World) (v : Bool) (hv : (cutF c (byt s)).2 = v) :
    Calls Tryz.prog 91 #[.string s, .string p] w fun e w' => e = .returned (.bool v) ∧ w = w' := by
  unfold maxLen at hs
  have hp1 : p.size = 1 := by rw [← byt_len, hp]; rfl
  have h1 : (p.size : Int) ≤ 1 := by omega
  have h2 : 1 ≤ (p.size : Int) := by omega
  rw [cut_at, byt_len] at hv
  by_cases h : 1 ≤ s.size
  · have d1 : (p.size : Int) ≤ (s.size : Int) := by omega
    have hx : ((s.extract 0 p.size).toList == p.toList) = v := by
      rw [list_byt, byt_extract, hp1, hp, ← hv, decide_eq_true h]; rfl
    have HX := Lib.hid hx
    clear hv hx hp hp1
    go_enter Tryz.func91, Tryz.ntmps91
    go_wp2
    go_ret
    exact ⟨ret_bool HX.out, rfl⟩
  · have d1 : decide ((p.size : Int) ≤ (s.size : Int)) = false := decide_eq_false (by omega)
    rw [decide_eq_false h] at hv
    obtain rfl : v = false := hv.symm
    clear hv hp hp1
    go_enter Tryz.func91, Tryz.ntmps91
    go_wp2
    go_ret
    exact ⟨rfl, rfl⟩
/-- What is behind a sign, and whether it was there. -/
def CutP (c : Int) (s : ByteArray) (w : World) (e : Ending) (w' : World) : Prop := ∃ t : ByteArray, byt t = (cutF c (byt s)).1 ∧ t.size ≤ s.size ∧ e = .returned (.tuple #[.string t, .bool (cutF c (byt s)).2]) ∧ w = w'
set_option maxHeartbeats 1000000 in
theorem cutPfx_lite (s p : ByteArray) (c : Int) (hp : byt p = [c]) (hs : s.size ≤ maxLen) (w : World) :
    Calls Tryz.prog 71 #[.string s, .string p] w (CutP c s w) := by
  have hp1 : p.size = 1 := by rw [← byt_len, hp]; rfl
  unfold CutP
  cases hv : (cutF c (byt s)).2 with
  | true =>
    have hsz : 1 ≤ s.size := by have := cut_len c (byt s) hv; rwa [byt_len] at this
    have hb : byt (s.extract p.size s.size) = (cutF c (byt s)).1 := by rw [hp1, byt_tail, cut_drop c _ hv]
    have HB := Lib.hid hb
    have h1 : p.size ≤ s.size := by omega
    have h2 : (p.size : Int) ≤ (s.size : Int) := by omega
    have HP := Lib.hid (hasPfx_at s p c hp hs w true hv)
    have hs' := hs
    unfold maxLen at hs'
    clear hv hp hp1 hb
    go_enter Tryz.func71, Tryz.ntmps71
    go_wp2_with (go_at_call 91; refine HP.out.mono ?_; rintro e w' ⟨rfl, rfl⟩)
    go_ret2
    exact ⟨_, HB.out, by simp [ByteArray.size_extract], rfl, rfl⟩
  | false =>
    have HP := Lib.hid (hasPfx_at s p c hp hs w false hv)
    have HB := Lib.hid (cut_false c (byt s) hv)
    clear hv hp hp1
    go_enter Tryz.func71, Tryz.ntmps71
    go_wp2_with (go_at_call 91; refine HP.out.mono ?_; rintro e w' ⟨rfl, rfl⟩)
    go_ret2
    exact ⟨s, HB.out.symm, Nat.le_refl _, rfl, rfl⟩
set_option maxHeartbeats 1000000 in
theorem cutPfx_any (s p : ByteArray) (c : Int) (hp : byt p = [c]) (hs : s.size ≤ maxLen) (w : World) :
    Calls Tryz.prog 58 #[.string s, .string p] w (CutP c s w) := by
  have H := Lib.hid (cutPfx_lite s p c hp hs w)
  clear hp
  go_enter Tryz.func58, Tryz.ntmps58
  go_wp2_with fail
  refine H.out.mono ?_
  rintro e w' ⟨t, ht, hz, rfl, rfl⟩
  have HT := Lib.hid ht
  clear ht
  go_wp2_with fail
  go_ret2
  exact ⟨t, HT.out, hz, rfl, rfl⟩
/-- What is behind a sign, or all. -/
def TrimP (c : Int) (s : ByteArray) (w : World) (e : Ending) (w' : World) : Prop := ∃ t : ByteArray, byt t = (cutF c (byt s)).1 ∧ t.size ≤ s.size ∧ e = .returned (.string t) ∧ w = w'
set_option maxHeartbeats 1000000 in
theorem trimPfx_lite (s p : ByteArray) (c : Int) (hp : byt p = [c]) (hs : s.size ≤ maxLen) (w : World) :
    Calls Tryz.prog 93 #[.string s, .string p] w (TrimP c s w) := by
  have hp1 : p.size = 1 := by rw [← byt_len, hp]; rfl
  unfold TrimP
  cases hv : (cutF c (byt s)).2 with
  | true =>
    have hsz : 1 ≤ s.size := by have := cut_len c (byt s) hv; rwa [byt_len] at this
    have hb : byt (s.extract p.size s.size) = (cutF c (byt s)).1 := by rw [hp1, byt_tail, cut_drop c _ hv]
    have HB := Lib.hid hb
    have h1 : p.size ≤ s.size := by omega
    have h2 : (p.size : Int) ≤ (s.size : Int) := by omega
    have HP := Lib.hid (hasPfx_at s p c hp hs w true hv)
    have hs' := hs
    unfold maxLen at hs'
    clear hv hp hp1 hb
    go_enter Tryz.func93, Tryz.ntmps93
    go_wp2_with (go_at_call 91; refine HP.out.mono ?_; rintro e w' ⟨rfl, rfl⟩)
    go_ret
    exact ⟨_, HB.out, by simp [ByteArray.size_extract], rfl, rfl⟩
  | false =>
    have HP := Lib.hid (hasPfx_at s p c hp hs w false hv)
    have HB := Lib.hid (cut_false c (byt s) hv)
    clear hv hp hp1
    go_enter Tryz.func93, Tryz.ntmps93
    go_wp2_with (go_at_call 91; refine HP.out.mono ?_; rintro e w' ⟨rfl, rfl⟩)
    go_ret
    exact ⟨s, HB.out.symm, Nat.le_refl _, rfl, rfl⟩
set_option maxHeartbeats 1000000 in
theorem trimPfx_any (s p : ByteArray) (c : Int) (hp : byt p = [c]) (hs : s.size ≤ maxLen) (w : World) :
    Calls Tryz.prog 73 #[.string s, .string p] w (TrimP c s w) := by
  have H := Lib.hid (trimPfx_lite s p c hp hs w)
  clear hp
  go_enter Tryz.func73, Tryz.ntmps73
  go_wp2_with fail
  refine H.out.mono ?_
  rintro e w' ⟨t, ht, hz, rfl, rfl⟩
  have HT := Lib.hid ht
  clear ht
  go_wp2_with fail
  go_ret
  exact ⟨t, HT.out, hz, rfl, rfl⟩
set_option maxHeartbeats 1000000 in
/-- Bytes behind a sign. -/
theorem cutPfxB_any (A B : Option Addr) (n c d : Nat) (zs : List Int) (x : Int) (w : World) (hl : zs.length = n) (hnc : n ≤ c) (hm : c ≤ 9223372036854775807) (hA : A = none → c = 0) (hr : RdB w A zs) (hx : RdB w B [x]) (hbz : Byte zs) (hbx : Byte [x]) :
    Calls Tryz.prog 74 #[.slice A n c, .slice B 1 d] w fun e w' => ∃ A' n' c', n' = (cutF x zs).1.length ∧ n' ≤ c' ∧ c' ≤ 9223372036854775807 ∧ (A' = none → c' = 0) ∧ RdB w A' (cutF x zs).1 ∧ e = .returned (.tuple #[.slice A' n' c', .bool (cutF x zs).2]) ∧ w = w' := by
  have hv := cut_at x zs
  cases hc : (cutF x zs).2 with
  | true =>
    have h1 : 1 ≤ n := by rw [← hl]; exact cut_len x zs hc
    have d1 : (1 : Int) ≤ (n : Int) := by omega
    obtain ⟨A', hrun, hA', hrd⟩ := slice_l A n c 1 zs hl hnc hA h1
    have HP := Lib.hid (hasPrefix_any A B n c 1 d zs [x] w hl rfl (by omega) hnc hm hr hx hbz hbx true (by rw [← hc, hv, ← hl]))
    have HR : Hid (RdB w A' (cutF x zs).1) := by show RdB _ _ _; rw [cut_drop x zs hc]; exact hrd w hr
    have HL : Hid (n - 1 = (cutF x zs).1.length) := by show _ = _; rw [cut_drop x zs hc, List.length_drop, hl]
    have HA' := Lib.hid hA'
    simp only [show ((1 : Nat) : Int) = 1 from rfl] at hrun
    clear hr hx hbz hbx hv hc hrd hl hA hA'
    go_enter Tryz.func74, Tryz.ntmps74
    go_wp2_with (go_at_call 19; refine HP.out.mono ?_; rintro e w' ⟨rfl, rfl⟩)
    go_ret2
    exact ⟨A', n - 1, c - 1, HL.out, by omega, by omega, HA'.out, HR.out, rfl, rfl⟩
  | false =>
    have HP := Lib.hid (hasPrefix_any A B n c 1 d zs [x] w hl rfl (by omega) hnc hm hr hx hbz hbx false (by rw [← hc, hv, ← hl]))
    have HR : Hid (RdB w A (cutF x zs).1) := by show RdB _ _ _; rw [cut_false x zs hc]; exact hr
    have HL : Hid (n = (cutF x zs).1.length) := by show _ = _; rw [cut_false x zs hc, hl]
    have HA := Lib.hid hA
    clear hr hx hbz hbx hv hc hl hA
    go_enter Tryz.func74, Tryz.ntmps74
    go_wp2_with (go_at_call 19; refine HP.out.mono ?_; rintro e w' ⟨rfl, rfl⟩)
    go_ret2
    exact ⟨A, n, c, HL.out, by omega, by omega, HA.out, HR.out, rfl, rfl⟩
set_option maxHeartbeats 1000000 in
theorem index_one (A : Option Addr) (b off : Nat) (n c d : Nat) (zs : List Int) (x : Int) (w : World) (hl : zs.length = n) (hr : RdB w A zs) (hx : w.cell? ⟨b, off, none⟩ = some (.int .u8 x)) (hd : 1 ≤ d) (hd' : d ≤ 9223372036854775807) (hbz : Byte zs) (hbx : 0 ≤ x ∧ x < 256) :
    Calls Tryz.prog 31 #[.slice A n c, .slice (some ⟨b, off, none⟩) 1 d] w fun e w' => e = .returned (.int .i64 (ixC x zs)) ∧ w = w' := by
  have H := Lib.hid (indexByteC_any x hbx A n c zs w hl hbz hr (ixC x zs) rfl)
  clear hl hr hbz
  go_enter Tryz.func31, Tryz.ntmps31
  go_wp2_with fail
  refine H.out.mono ?_
  rintro e w' ⟨rfl, rfl⟩
  go_wp2_with fail
  go_ret
  exact ⟨rfl, rfl⟩
theorem ix_word (zs : List Int) : (ixC 32 zs = -1 ∧ wrdF zs = zs) ∨ (∃ k : Nat, ixC 32 zs = (k : Int) ∧ k < zs.length ∧ wrdF zs = zs.take k) := by
  unfold ixC
  split
  · rename_i h
    exact .inr ⟨_, rfl, h, wrd_take zs⟩
  · rename_i h
    exact .inl ⟨rfl, by rw [wrd_take, List.take_of_length_le (by omega)]⟩
set_option maxHeartbeats 1000000 in
theorem cutB_word (A : Option Addr) (b off : Nat) (n c d : Nat) (zs : List Int) (w : World) (hl : zs.length = n) (hnc : n ≤ c) (hm : c ≤ 9223372036854775807) (hA : A = none → c = 0) (hr : RdB w A zs) (hx : w.cell? ⟨b, off, none⟩ = some (.int .u8 32)) (hd : 1 ≤ d) (hd' : d ≤ 9223372036854775807) (hbz : Byte zs) :
    Calls Tryz.prog 57 #[.slice A n c, .slice (some ⟨b, off, none⟩) 1 d] w fun e w' => ∃ u v, e = .returned (.tuple #[.slice A (wrdF zs).length c, u, .bool v]) ∧ Below w.heap.size w w' := by
  have H := Lib.hid (index_one A b off n c d zs 32 w hl hr hx hd hd' hbz (by omega))
  rcases ix_word zs with ⟨h1, h2⟩ | ⟨k, h1, h2, h3⟩
  · rw [h2, hl]
    rw [h1] at H
    clear h1 h2 hl hr hx hbz hA
    go_enter Tryz.func57, Tryz.ntmps57
    go_wp2_with fail
    refine H.out.mono ?_
    rintro e w' ⟨rfl, rfl⟩
    go_wp2_with fail
    go_ret3
    exact ⟨_, _, rfl, Below.refl _ _⟩
  · rw [h3, List.length_take, Nat.min_eq_left (by omega)]
    rw [h1] at H
    have e1 := slice_h A n c k (by omega) hnc hA
    obtain ⟨A', e2, -, -⟩ := slice_lI A n c (k + 1) ((k : Int) + 1) (by omega) zs hl hnc hA (by omega)
    have d0 : (0 : Int) ≤ (k : Int) := by omega
    clear h1 h3 hr hx hbz hA
    go_enter Tryz.func57, Tryz.ntmps57
    go_wp2_with fail
    refine H.out.mono ?_
    rintro e w' ⟨rfl, rfl⟩
    go_wp2_with fail
    go_quiet (fail)
    go_wp2_with fail
    go_ret3
    exact ⟨_, _, rfl, below_draws (Below.refl _ _) _⟩
theorem one_at {x : Int} : ∀ (k : Nat) (u : Int), [x][k]? = some u → (#[Value.int .u8 x] : Array Value)[k]? = some (Value.int .u8 u) := by
  intro k u h
  match k with
  | 0 => simp at h; subst h; rfl
  | k + 1 => simp at h
theorem index_const (c : UInt8) (W : World) : (Instr.index 9 (.string ⟨#[c]⟩) (.int .i64 0)).run Tryz.prog W = .ok (.int .u8 (c.toNat : Int)) W := by
  have := run_index_string (P := Tryz.prog) W 9 ⟨#[c]⟩ .i64 0 Tryz.underlying9
  rw [dif_pos ⟨by omega, by show (0 : Int) < ((1 : Nat) : Int); omega⟩] at this
  rw [this]; rfl
set_option maxHeartbeats 1000000 in
theorem begins_any (A : Option Addr) (n c : Nat) (zs : List Int) (w : World) (hl : zs.length = n) (hnc : n ≤ c) (hm : c ≤ 9223372036854775807) (hr : RdB w A zs) :
    Calls Tryz.prog 43 #[.slice A n c] w fun e w' => e = .returned (.bool (begF zs)) ∧ Below w.heap.size w w' := by
  cases zs with
  | nil =>
    obtain rfl : n = 0 := by simpa using hl.symm
    have d0 : decide ((0 : Int) < ((0 : Nat) : Int)) = false := rfl
    clear hr hl
    go_enter Tryz.func43, Tryz.ntmps43
    go_wp2_with fail
    go_quiet (fail)
    go_wp2_with fail
    go_ret
    exact ⟨rfl, below_draws (Below.refl _ _) _⟩
  | cons x t =>
    obtain ⟨b, off, rfl, hc⟩ := hr.cons
    have hn : 1 ≤ n := by rw [← hl]; simp
    have d0 : (0 : Int) < (n : Int) := by omega
    have d0n : 0 < n := by omega
    have c0 := hc 0 x rfl
    rw [Nat.add_zero] at c0
    have x33 : ∀ W, (Instr.index 9 (.string ⟨#[33]⟩) (.int .i64 0)).run Tryz.prog W = .ok (.int .u8 33) W := index_const 33
    have x38 : ∀ W, (Instr.index 9 (.string ⟨#[38]⟩) (.int .i64 0)).run Tryz.prog W = .ok (.int .u8 38) W := index_const 38
    clear hc hr hl
    by_cases h33 : x = 33
    · subst h33
      go_enter Tryz.func43, Tryz.ntmps43
      go_wp2_with fail
      go_quiet (fail)
      go_wp2_with fail
      go_ret
      exact ⟨rfl, below_draws (Below.refl _ _) _⟩
    · have d1 : (x == 33) = false := beq_eq_false_iff_ne.2 h33
      go_enter Tryz.func43, Tryz.ntmps43
      go_wp2_with fail
      go_quiet (fail)
      go_wp2_with fail
      go_ret
      exact ⟨ret_bool (by simp [begF, d1]), below_draws (Below.refl _ _) _⟩
/-- A text is answered: its bytes are zs. -/
def StrB (zs : List Int) (w : World) (e : Ending) (w' : World) : Prop := ∃ s : ByteArray, byt s = zs ∧ e = .returned (.string s) ∧ Below w.heap.size w w'
set_option maxHeartbeats 1000000 in
theorem firstWord_any (A : Option Addr) (n c : Nat) (zs : List Int) (w : World) (hl : zs.length = n) (hnc : n ≤ c) (hm : c ≤ 9223372036854775807) (hA : A = none → c = 0) (hb : Byte zs) (hr : RdB w A zs) :
    Calls Tryz.prog 45 #[.slice A n c] w (StrB (wrdF zs) w) := by
  have kc := fun (w : World) (C : Array Value) (n c : Nat) => Lib.run_convert_bytes_const (P := Tryz.prog) w 35 5 C n c Tryz.underlying35 Tryz.underlying5
  have hbel : Below w.heap.size w (w.alloc (.cells #[.int .u8 32] 5 (1, 2))) := (Below.refl _ _).alloc (Nat.le_refl _) _
  have hx : (w.alloc (.cells #[.int .u8 32] 5 (1, 2))).cell? ⟨w.heap.size, 0, none⟩ = some (.int .u8 32) := by rw [World.cell?_alloc_mark]; rfl
  have H := Lib.hid (cutB_word A w.heap.size 0 n c 1 zs (w.alloc (.cells #[.int .u8 32] 5 (1, 2))) hl hnc hm hA (hr.below hbel) hx (by omega) (by omega) hb)
  have HR := Lib.hid hr
  have HB := Lib.hid hb
  have HBEL := Lib.hid hbel
  have hwl := wrd_len zs
  have hwt : wrdF zs = zs.take (wrdF zs).length := List.prefix_iff_eq_take.1 (List.takeWhile_prefix _)
  have HWT := Lib.hid hwt
  clear hx hb hl hr hA hbel hwt
  go_enter Tryz.func45, Tryz.ntmps45
  go_wp2_with fail
  refine H.out.mono ?_
  rintro e w' ⟨u, v, rfl, hb2⟩
  have hb3 := below_step HBEL.out hb2
  have hcv := run_string_rd w' A (wrdF zs).length c (wrdF zs) rfl (by have := (HR.out.below hb3).take (wrdF zs).length; rwa [← HWT.out] at this)
  have HB3 := Lib.hid hb3
  clear hb3 hb2 kc
  go_wp2_with fail
  go_ret
  exact ⟨_, byt_strOfNums _ (by rw [HWT.out]; exact HB.out.take _), rfl, HB3.out⟩
set_option maxHeartbeats 1000000 in
theorem blanks_any (A : Option Addr) (n c : Nat) (zs : List Int) (w : World) (hl : zs.length = n) (hnc : n ≤ c) (hm : c ≤ 9223372036854775807) (hr : RdB w A zs) :
    Calls Tryz.prog 44 #[.slice A n c] w fun e w' => e = .returned (.int .i64 (blkF zs : Int)) ∧ w = w' := by
  have HR := Lib.hid hr
  have HL := Lib.hid hl
  clear hr hl
  go_enter Tryz.func44, Tryz.ntmps44
  go_wp2
  go_loop [3] (fun i => ∃ k : Nat, k ≤ n ∧ i = .int .i64 (k : Int) ∧ Hid (blkF zs = k + blkF (zs.drop k))) (fun i => n - (intOf i).toNat)
  case atStart => exact ⟨0, Nat.zero_le _, rfl, by show _ = _; simp⟩
  case round =>
    obtain ⟨k, hk, rfl, HA⟩ := hrel
    by_cases hlt : k < n
    · obtain ⟨b, off, rfl, hc⟩ := HR.out.addr (by rw [HL.out]; omega)
      have ck := hc k (by rw [HL.out]; exact hlt)
      have hbk := blk_at (l := zs) (k := k) (by rw [HL.out]; exact hlt)
      have d1 : (k : Int) < (n : Int) := by omega
      generalize zs.getD k 0 = x at *
      by_cases h32 : x = 32
      · subst h32
        have HK : Hid (blkF zs = k + 1 + blkF (zs.drop (k + 1))) := by show _ = _; rw [HA.out, hbk, if_pos rfl]; omega
        clear hbk hc
        go_wp2_with (go_at_call 47; refine (space_any _ _).mono ?_; rintro e w' ⟨rfl, rfl⟩)
        go_round
        case rel => exact ⟨k + 1, by omega, by go_num, HK⟩
        case measure => simp [intOf]; omega
      · have ds : spc x = false := beq_eq_false_iff_ne.2 h32
        have HK : Hid (blkF zs = k) := by show _ = _; rw [HA.out, hbk, if_neg h32]; omega
        clear hbk hc
        go_wp2_with (go_at_call 47; refine (space_any _ _).mono ?_; rintro e w' ⟨rfl, rfl⟩)
        go_ret
        exact ⟨ret_int (by rw [HK.out]), rfl⟩
    · have HK : Hid (blkF zs = k) := by show _ = _; rw [HA.out, blk_end (by rw [HL.out]; omega)]; omega
      have d1 : decide ((k : Int) < (n : Int)) = false := decide_eq_false (by omega)
      go_wp2
      go_ret
      exact ⟨ret_int (by rw [HK.out]), rfl⟩
set_option maxHeartbeats 1000000 in
theorem letters_any (A : Option Addr) (n c : Nat) (zs : List Int) (w : World) (hl : zs.length = n) (hnc : n ≤ c) (hm : c ≤ 9223372036854775807) (hA : A = none → c = 0) (hb : Byte zs) (hr : RdB w A zs) :
    Calls Tryz.prog 75 #[.slice A n c] w fun e w' => e = .returned (.int .i64 (ltrF 33 zs : Int)) ∧ w = w' := by
  have HR := Lib.hid hr
  have HL := Lib.hid hl
  have HB := Lib.hid hb
  have HA0 := Lib.hid hA
  clear hr hl hb hA
  go_enter Tryz.func75, Tryz.ntmps75
  go_wp2
  go_loop [3] (fun i => ∃ k : Nat, k ≤ n ∧ k ≤ 33 ∧ i = .int .i64 (k : Int) ∧ Hid (ltrF 33 zs = k + ltrF (33 - k) (zs.drop k))) (fun i => n - (intOf i).toNat)
  case atStart => exact ⟨0, Nat.zero_le _, by omega, rfl, by show _ = _; simp⟩
  case round =>
    obtain ⟨k, hk, hk33, rfl, HA⟩ := hrel
    by_cases hlt : k < n
    · have d1 : (k : Int) < (n : Int) := by omega
      by_cases h32 : k ≤ 32
      · have d2 : (k : Int) ≤ 32 := by omega
        obtain ⟨A', hrun, hA', hrd⟩ := slice_lh A n c k (k + 1) zs HL.out hnc HA0.out (by omega) (by omega)
        rw [show (((k + 1 : Nat)) : Int) = (k : Int) + 1 by omega] at hrun
        have hzk : (zs.drop k).take (k + 1 - k) = [zs.getD k 0] := by
          rw [drop_cons_at (by rw [HL.out]; exact hlt), show k + 1 - k = 1 by omega]; rfl
        have hrx := hrd w HR.out
        rw [hzk] at hrx
        have hcw := run_string_rd w A' 1 (c - k) _ rfl hrx
        have hx := HB.out.at_ (k := k) (by rw [HL.out]; exact hlt)
        have hla := ltr_at (l := zs) (k := k) (m := 32 - k) (by rw [HL.out]; exact hlt)
        rw [show 32 - k + 1 = 33 - k by omega] at hla
        have hnm := name_any (strOfNums [zs.getD k 0]) w (by rw [strOfNums_size]; unfold maxLen; simp)
        rw [byt_strOfNums _ (by intro z hz; simp at hz; subst hz; exact hx), name_one] at hnm
        generalize strOfNums [zs.getD k 0] = sx at *
        generalize zs.getD k 0 = x at *
        have HN := Lib.hid hnm
        cases hq : nmb x with
        | true =>
          have HK : Hid (ltrF 33 zs = k + 1 + ltrF (33 - (k + 1)) (zs.drop (k + 1))) := by show _ = _; rw [HA.out, hla, hq, show 33 - (k + 1) = 32 - k by omega]; simp; omega
          clear hrx hzk hrd hla hnm hx
          go_wp2_with (go_at_call 59; refine HN.out.mono ?_; rintro e w' ⟨rfl, rfl⟩)
          go_round
          case rel => exact ⟨k + 1, by omega, by omega, by go_num, HK⟩
          case measure => simp [intOf]; omega
        | false =>
          have HK : Hid (ltrF 33 zs = k) := by show _ = _; rw [HA.out, hla, hq]; simp
          clear hrx hzk hrd hla hnm hx
          go_wp2_with (go_at_call 59; refine HN.out.mono ?_; rintro e w' ⟨rfl, rfl⟩)
          go_ret
          exact ⟨ret_int (by rw [HK.out]), rfl⟩
      · have HK : Hid (ltrF 33 zs = k) := by show _ = _; rw [HA.out, show 33 - k = 0 by omega]; simp [ltrF]
        have d2 : decide ((k : Int) ≤ 32) = false := decide_eq_false (by omega)
        go_wp2
        go_ret
        exact ⟨ret_int (by rw [HK.out]), rfl⟩
    · have HK : Hid (ltrF 33 zs = k) := by show _ = _; rw [HA.out, ltr_end (by rw [HL.out]; omega)]; omega
      have d1 : decide ((k : Int) < (n : Int)) = false := decide_eq_false (by omega)
      go_wp2
      go_ret
      exact ⟨ret_int (by rw [HK.out]), rfl⟩
set_option maxHeartbeats 1000000 in
theorem validTag_any (s : ByteArray) (hs : s.size ≤ maxLen) (w : World) :
    Calls Tryz.prog 60 #[.string s] w fun e w' => e = .returned (.bool (validF (byt s))) ∧ w = w' := by
  have hv : validF (byt s) = ((cutF 33 (byt s)).2 && ((cutF 33 (byt s)).1.isEmpty || nameF (cutF 33 (cutF 33 (byt s)).1).1)) := rfl
  have HV := Lib.hid hv
  have H := Lib.hid (cutPfx_any s ⟨#[33]⟩ 33 rfl hs w)
  clear hv
  go_enter Tryz.func60, Tryz.ntmps60
  go_wp2_with fail
  refine H.out.mono ?_
  rintro e w' ⟨t, ht, hz, rfl, rfl⟩
  rw [← ht] at HV
  clear H ht
  generalize (cutF 33 (byt s)).2 = b at *
  cases b with
  | false =>
    go_wp2_with fail
    go_ret
    exact ⟨ret_bool HV.out.symm, rfl⟩
  | true =>
    cases he : t.toList.isEmpty with
    | true =>
      have HE : Hid ((byt t).isEmpty = true) := by show _ = _; rw [← empty_byt]; exact he
      go_wp2_with fail
      go_ret
      exact ⟨ret_bool (by rw [HV.out, HE.out]; rfl), rfl⟩
    | false =>
      have HE : Hid ((byt t).isEmpty = false) := by show _ = _; rw [← empty_byt]; exact he
      have hz' : t.size ≤ maxLen := Nat.le_trans hz hs
      go_wp2_with fail
      refine (trimPfx_any t ⟨#[33]⟩ 33 rfl hz' w).mono ?_
      rintro e w' ⟨u, hu, hz2, rfl, rfl⟩
      have HU := Lib.hid hu
      clear hu
      go_wp2_with fail
      refine (name_any u w (Nat.le_trans hz2 hz')).mono ?_
      rintro e w' ⟨rfl, rfl⟩
      go_wp2_with fail
      go_ret
      exact ⟨ret_bool (by rw [HV.out, HE.out, HU.out]; rfl), rfl⟩
def WithP (t a l : List Int) (w : World) (e : Ending) (w' : World) : Prop :=
  ∃ t' a' : ByteArray, byt t' = (withF t a l).1 ∧ byt a' = (withF t a l).2.1 ∧ e = .returned (.tuple #[.agg #[.string t', .string a'], .bool (withF t a l).2.2]) ∧ Below w.heap.size w w'
set_option maxHeartbeats 1000000 in
theorem with_any (t a s : ByteArray) (hs : s.size ≤ maxLen) (w : World) :
    Calls Tryz.prog 46 #[.agg #[.string t, .string a], .string s] w (WithP (byt t) (byt a) (byt s) w) := by
  have hw : withF (byt t) (byt a) (byt s) = if (cutF 38 (byt s)).2 then (if (byt a).isEmpty && nameF (cutF 38 (byt s)).1 then (byt t, (cutF 38 (byt s)).1, true) else ([], [], false)) else (if (byt t).isEmpty && validF (byt s) then (byt s, byt a, true) else ([], [], false)) := rfl
  unfold WithP
  have HW := Lib.hid hw
  clear hw
  go_enter Tryz.func46, Tryz.ntmps46
  go_wp2_with fail
  refine (cutPfx_any s ⟨#[38]⟩ 38 rfl hs _).mono ?_
  rintro e w' ⟨u, hu, hz, rfl, rfl⟩
  rw [← hu] at HW
  clear hu
  have HB2 : Hid (Below w.heap.size w ((w.alloc (.cells #[.string t, .string a] 70)).alloc (.cells #[.string ⟨#[]⟩, .string ⟨#[]⟩] 70))) := ((Below.refl _ _).alloc (Nat.le_refl _) _).alloc (by simp) _
  have hz' : u.size ≤ maxLen := Nat.le_trans hz hs
  generalize (cutF 38 (byt s)).2 = b at *
  cases b with
  | true =>
    cases he : a.toList.isEmpty with
    | true =>
      have HE : Hid ((byt a).isEmpty = true) := by show _ = _; rw [← empty_byt]; exact he
      cases hn : nameF (byt u) with
      | true =>
        have HN := Lib.hid hn
        have NC := Lib.hid (name_any u · hz')
        rw [hn] at NC
        clear hn
        go_wp2_with (go_at_call 59; refine (NC.out _).mono ?_; rintro e w' ⟨rfl, rfl⟩)
        have hwv : withF (byt t) (byt a) (byt s) = (byt t, byt u, true) := by rw [HW.out]; simp [HE.out, HN.out]
        exact bodyPost_ret (v := .tuple #[.agg #[.string t, .string u], .bool true]) (by simp [results, Tryz.results46, go_sem]) rfl ⟨t, u, by rw [hwv], by rw [hwv], by rw [hwv], ((Below.refl _ _).alloc (Nat.le_refl _) _).alloc (by simp) _⟩
      | false =>
        have HN := Lib.hid hn
        have NC := Lib.hid (name_any u · hz')
        rw [hn] at NC
        clear hn
        go_wp2_with (go_at_call 59; refine (NC.out _).mono ?_; rintro e w' ⟨rfl, rfl⟩)
        have hwv : withF (byt t) (byt a) (byt s) = ([], [], false) := by rw [HW.out]; simp [HE.out, HN.out]
        exact bodyPost_ret (v := .tuple #[.agg #[.string ⟨#[]⟩, .string ⟨#[]⟩], .bool false]) (by simp [results, Tryz.results46, go_sem]) rfl ⟨⟨#[]⟩, ⟨#[]⟩, by rw [hwv]; rfl, by rw [hwv]; rfl, by rw [hwv], ((Below.refl _ _).alloc (Nat.le_refl _) _).alloc (by simp) _⟩
    | false =>
      have HE : Hid ((byt a).isEmpty = false) := by show _ = _; rw [← empty_byt]; exact he
      go_wp2_with fail
      have hwv : withF (byt t) (byt a) (byt s) = ([], [], false) := by rw [HW.out]; simp [HE.out]
      exact bodyPost_ret (v := .tuple #[.agg #[.string ⟨#[]⟩, .string ⟨#[]⟩], .bool false]) (by simp [results, Tryz.results46, go_sem]) rfl ⟨⟨#[]⟩, ⟨#[]⟩, by rw [hwv]; rfl, by rw [hwv]; rfl, by rw [hwv], ((Below.refl _ _).alloc (Nat.le_refl _) _).alloc (by simp) _⟩
  | false =>
    cases he : t.toList.isEmpty with
    | true =>
      have HE : Hid ((byt t).isEmpty = true) := by show _ = _; rw [← empty_byt]; exact he
      cases hn : validF (byt s) with
      | true =>
        have HN := Lib.hid hn
        have NC := Lib.hid (validTag_any s hs ·)
        rw [hn] at NC
        clear hn
        go_wp2_with (go_at_call 60; refine (NC.out _).mono ?_; rintro e w' ⟨rfl, rfl⟩)
        have hwv : withF (byt t) (byt a) (byt s) = (byt s, byt a, true) := by rw [HW.out]; simp [HE.out, HN.out]
        exact bodyPost_ret (v := .tuple #[.agg #[.string s, .string a], .bool true]) (by simp [results, Tryz.results46, go_sem]) rfl ⟨s, a, by rw [hwv], by rw [hwv], by rw [hwv], ((Below.refl _ _).alloc (Nat.le_refl _) _).alloc (by simp) _⟩
      | false =>
        have HN := Lib.hid hn
        have NC := Lib.hid (validTag_any s hs ·)
        rw [hn] at NC
        clear hn
        go_wp2_with (go_at_call 60; refine (NC.out _).mono ?_; rintro e w' ⟨rfl, rfl⟩)
        have hwv : withF (byt t) (byt a) (byt s) = ([], [], false) := by rw [HW.out]; simp [HE.out, HN.out]
        exact bodyPost_ret (v := .tuple #[.agg #[.string ⟨#[]⟩, .string ⟨#[]⟩], .bool false]) (by simp [results, Tryz.results46, go_sem]) rfl ⟨⟨#[]⟩, ⟨#[]⟩, by rw [hwv]; rfl, by rw [hwv]; rfl, by rw [hwv], ((Below.refl _ _).alloc (Nat.le_refl _) _).alloc (by simp) _⟩
    | false =>
      have HE : Hid ((byt t).isEmpty = false) := by show _ = _; rw [← empty_byt]; exact he
      go_wp2_with fail
      have hwv : withF (byt t) (byt a) (byt s) = ([], [], false) := by rw [HW.out]; simp [HE.out]
      exact bodyPost_ret (v := .tuple #[.agg #[.string ⟨#[]⟩, .string ⟨#[]⟩], .bool false]) (by simp [results, Tryz.results46, go_sem]) rfl ⟨⟨#[]⟩, ⟨#[]⟩, by rw [hwv]; rfl, by rw [hwv]; rfl, by rw [hwv], ((Below.refl _ _).alloc (Nat.le_refl _) _).alloc (by simp) _⟩
/-- A struct of two texts in memory of our own. -/
def Own2 (W : World) (g : Nat) (T : TypeId) (t a : ByteArray) : Prop := W.heap[g]? = some (.cells #[.string t, .string a] T)
section
variable {W W' : World} {g : Nat} {T : TypeId} {t a t' a' : ByteArray}
theorem Own2.lt (h : Own2 W g T t a) : g < W.heap.size := by unfold Own2 at h; exact (Array.getElem?_eq_some_iff.1 h).1
theorem Own2.c0 (h : Own2 W g T t a) : W.cell? ⟨g, 0, none⟩ = some (.string t) := by unfold Own2 at h; simp [World.cell?, h]
theorem Own2.c1 (h : Own2 W g T t a) : W.cell? ⟨g, 1, none⟩ = some (.string a) := by unfold Own2 at h; simp [World.cell?, h]
theorem Own2.z0 (h : Own2 W g T t a) : W.frozen? ⟨g, 0, none⟩ = false := by unfold Own2 at h; simp [World.frozen?, h]
theorem Own2.z1 (h : Own2 W g T t a) : W.frozen? ⟨g, 1, none⟩ = false := by unfold Own2 at h; simp [World.frozen?, h]
theorem Own2.set (h : Own2 W g T t a) : Own2 ((W.setCell ⟨g, 0, none⟩ (.string t')).setCell ⟨g, 1, none⟩ (.string a')) g T t' a' := by
  unfold Own2 at h ⊢; simp [World.setCell, Array.getElem?_modify, h]
theorem Own2.below (h : Own2 W g T t a) (hb : Below W.heap.size W W') : Own2 W' g T t a := (hb.block g h.lt).trans h
theorem Own2.new (w : World) (T : TypeId) (t a : ByteArray) : Own2 (w.alloc (.cells #[.string t, .string a] T)) w.heap.size T t a := heap_alloc_new w _
end
theorem set2_below {w W : World} {g : Nat} {y0 y1 : Value} (h : Below w.heap.size w W) (hg : w.heap.size ≤ g) : Below w.heap.size w ((W.setCell ⟨g, 0, none⟩ y0).setCell ⟨g, 1, none⟩ y1) :=
  (h.setCell (p := ⟨g, 0, none⟩) hg _).setCell (p := ⟨g, 1, none⟩) hg _
def AliasP (zs : List Int) (w : World) (e : Ending) (w' : World) : Prop :=
  ∃ s : ByteArray, byt s = (aliasF zs).1 ∧ e = .returned (.tuple #[.string s, .int .i64 ((aliasF zs).2.1 : Int), .bool (aliasF zs).2.2]) ∧ Below w.heap.size w w'
set_option maxHeartbeats 1000000 in
theorem takeAlias_any (A : Option Addr) (n c : Nat) (zs : List Int) (w : World) (hl : zs.length = n) (hnc : n ≤ c) (hm : c ≤ 9223372036854775807) (hA : A = none → c = 0) (hb : Byte zs) (hr : RdB w A zs) :
    Calls Tryz.prog 61 #[.slice A n c] w (AliasP zs w) := by
  have kc := fun (w : World) (C : Array Value) (n c : Nat) => Lib.run_convert_bytes_const (P := Tryz.prog) w 35 5 C n c Tryz.underlying35 Tryz.underlying5
  have hbel : Below w.heap.size w (w.alloc (.cells #[.int .u8 42] 5 (1, 2))) := (Below.refl _ _).alloc (Nat.le_refl _) _
  have H := Lib.hid (cutPfxB_any A (some ⟨w.heap.size, 0, none⟩) n c 1 zs 42 (w.alloc (.cells #[.int .u8 42] 5 (1, 2))) hl hnc hm hA (hr.below hbel) (RdB.new rfl one_at) hb (by intro z hz; simp at hz; subst hz; omega))
  have hby : Byte (cutF 42 zs).1 := by
    cases hc : (cutF 42 zs).2 with
    | true => rw [cut_drop _ _ hc]; exact hb.drop 1
    | false => rw [cut_false _ _ hc]; exact hb
  have HY := Lib.hid hby
  have HBEL := Lib.hid hbel
  have ha : aliasF zs = if (cutF 42 zs).2 && nameF ((cutF 42 zs).1.take (ltrF 33 (cutF 42 zs).1)) then ((cutF 42 zs).1.take (ltrF 33 (cutF 42 zs).1), 1 + ltrF 33 (cutF 42 zs).1, true) else ([], 0, false) := rfl
  unfold AliasP
  have HAF := Lib.hid ha
  clear hl hA hb hr hbel hby ha
  go_enter Tryz.func61, Tryz.ntmps61
  go_wp2_with fail
  refine H.out.mono ?_
  rintro e w' ⟨A', n', c', hn', hnc', hc', hA', hrd, rfl, rfl⟩
  clear H kc
  generalize (cutF 42 zs).1 = r at *
  generalize (cutF 42 zs).2 = b at *
  have HRD := Lib.hid hrd
  have HN' := Lib.hid hn'
  have HA' := Lib.hid hA'
  clear hrd hn' hA'
  generalize w.alloc (.cells #[.int .u8 42] 5 (1, 2)) = W at *
  cases b with
  | false =>
    go_wp2_with fail
    go_ret3
    exact ⟨⟨#[]⟩, by rw [HAF.out]; rfl, by rw [HAF.out]; rfl, HBEL.out⟩
  | true =>
    go_wp2_with fail
    refine (letters_any A' n' c' r W HN'.out.symm hnc' hc' HA'.out HY.out HRD.out).mono ?_
    rintro e w' ⟨rfl, rfl⟩
    have hk := (ltr_len 33 r).1
    have hk2 := (ltr_len 33 r).2
    rw [← HN'.out] at hk
    generalize ltrF 33 r = k at *
    have e1 := slice_h A' n' c' k hk hnc' HA'.out
    have hcv := run_string_rd W A' k c' (r.take k) (by rw [List.length_take, ← HN'.out]; omega) (HRD.out.take k)
    obtain ⟨s, hs⟩ : ∃ s, strOfNums (r.take k) = s := ⟨_, rfl⟩
    have hsb : byt s = r.take k := by rw [← hs]; exact byt_strOfNums _ (HY.out.take k)
    have hsz : s.size = k := by rw [← byt_len, hsb, List.length_take, ← HN'.out]; omega
    rw [hs] at hcv
    have HSB := Lib.hid hsb
    have HSZ := Lib.hid hsz
    have hsm : s.size ≤ 33 := by omega
    have NC := Lib.hid (name_any s W (by unfold maxLen; omega))
    rw [hsb] at NC
    clear hs hsb hsz
    cases hn : nameF (r.take k) with
    | true =>
      have HN := Lib.hid hn
      rw [hn] at NC
      clear hn
      go_wp2_with (go_at_call 59; refine NC.out.mono ?_; rintro e w' ⟨rfl, rfl⟩)
      go_ret3
      exact ⟨s, by rw [HAF.out, HN.out, HSB.out]; rfl, by rw [HAF.out, HN.out, ← HSZ.out]; simp, HBEL.out⟩
    | false =>
      have HN := Lib.hid hn
      rw [hn] at NC
      clear hn
      go_wp2_with (go_at_call 59; refine NC.out.mono ?_; rintro e w' ⟨rfl, rfl⟩)
      go_ret3
      exact ⟨⟨#[]⟩, by rw [HAF.out, HN.out]; rfl, by rw [HAF.out, HN.out]; rfl, HBEL.out⟩
def TakeP (zs : List Int) (w : World) (e : Ending) (w' : World) : Prop :=
  ∃ t a : ByteArray, byt t = (takeP zs).1 ∧ byt a = (takeP zs).2.1 ∧ e = .returned (.tuple #[.agg #[.string t, .string a], .int .i64 ((takeP zs).2.2.1 : Int), .bool (takeP zs).2.2.2]) ∧ Below w.heap.size w w'
set_option maxHeartbeats 4000000 in
theorem take_any (A : Option Addr) (n c : Nat) (zs : List Int) (w : World) (hl : zs.length = n) (hnc : n ≤ c) (hm : c ≤ 9223372036854775807) (hA : A = none → c = 0) (hb : Byte zs) (hr : RdB w A zs) :
    Calls Tryz.prog 32 #[.slice A n c] w (TakeP zs w) := by
  have HR := Lib.hid hr
  have HB := Lib.hid hb
  have HL := Lib.hid hl
  have HA := Lib.hid hA
  clear hr hb hl hA
  unfold TakeP
  go_enter Tryz.func32, Tryz.ntmps32
  go_wp2_with fail
  go_loopw [3, 5] (fun nn i W => ∃ (k m : Nat), k ≤ n ∧ m ≤ n ∧ nn = .int .i64 (m : Int) ∧ i = .int .i64 (k : Int) ∧
    Hid (∃ (f : Nat) (t a : ByteArray), n - k < f ∧ takeP zs = goP f (zs.drop k) k m (byt t) (byt a) ∧ Own2 W w.heap.size 70 t a ∧ Below w.heap.size w W)) (fun _ i _ => n - (intOf i).toNat)
  case atStart => exact ⟨0, 0, by omega, by omega, rfl, rfl, n + 1, ⟨#[]⟩, ⟨#[]⟩, by omega, by rw [← HL.out]; rfl, Own2.new _ _ _ _, (Below.refl _ _).alloc (Nat.le_refl _) _⟩
  case round =>
    obtain ⟨k, m, hk, hmn, rfl, rfl, HK⟩ := hrel
    obtain ⟨W, hW⟩ : ∃ x, x = wr := ⟨_, rfl⟩
    subst hW
    obtain ⟨f, t, a, hf, hgo, hown, hbel⟩ := HK.out
    obtain ⟨f, rfl⟩ : ∃ g, f = g + 1 := ⟨f - 1, by omega⟩
    have hW1 : w.heap.size < W.heap.size := hown.lt
    have HGO := Lib.hid hgo
    have HOWN := Lib.hid hown
    have HBEL := Lib.hid hbel
    clear hgo hown hbel HK
    obtain ⟨A', hrun, hA', hrd⟩ := slice_l A n c k zs HL.out hnc HA.out hk
    have HRD := Lib.hid hrd
    have HA' := Lib.hid hA'
    clear hrd hA'
    go_wp2_with fail
    refine (begins_any A' (n - k) (c - k) (zs.drop k) W (by rw [List.length_drop, HL.out]) (by omega) (by omega) (HRD.out W (HR.out.below HBEL.out))).mono ?_
    rintro e W1 ⟨rfl, hb1⟩
    have hb01 := below_step HBEL.out hb1
    have hown1 := HOWN.out.below hb1
    have HB01 := Lib.hid hb01
    have HOWN1 := Lib.hid hown1
    clear hb1 hb01 hown1 HBEL HOWN
    cases hq : begF (zs.drop k) with
    | false =>
      have hres : takeP zs = (byt t, byt a, m, true) := by rw [HGO.out, goP_stop _ _ _ _ _ _ hq]
      have HRES := Lib.hid hres
      have c0 := HOWN1.out.c0
      have c1 := HOWN1.out.c1
      have z0 := HOWN1.out.z0
      have z1 := HOWN1.out.z1
      clear hq hres hrun
      go_wp2_with fail
      obtain ⟨Y, hY⟩ : ∃ Y, ((W1.setCell ⟨w.heap.size, 0, none⟩ (.string t)).setCell ⟨w.heap.size, 1, none⟩ (.string a)) = Y := ⟨_, rfl⟩
      have hy : Own2 Y w.heap.size 70 t a := by rw [← hY]; exact HOWN1.out.set
      have hyb : Below w.heap.size w Y := by rw [← hY]; exact set2_below HB01.out (Nat.le_refl _)
      rw [hY]
      clear hY c0 c1 z0 z1
      have c0 := hy.c0
      have c1 := hy.c1
      exact bodyPost_ret (v := .tuple #[.agg #[.string t, .string a], .int .i64 (m : Int), .bool true]) (by simp [results, Tryz.results32, go_sem, c0, c1]) rfl ⟨t, a, by rw [HRES.out], by rw [HRES.out], by rw [HRES.out], hyb⟩
    | true =>
      have HQ := Lib.hid hq
      clear hq
      go_wp2_with fail
      refine (firstWord_any A' (n - k) (c - k) (zs.drop k) W1 (by rw [List.length_drop, HL.out]) (by omega) (by omega) HA'.out (HB.out.drop k) (HRD.out W1 (HR.out.below HB01.out))).mono ?_
      rintro e W2 ⟨s, hs, rfl, hb2⟩
      have hb02 := below_step HB01.out hb2
      have hown2 := HOWN1.out.below hb2
      have HB02 := Lib.hid hb02
      have HOWN2 := Lib.hid hown2
      have hsz : s.size = (wrdF (zs.drop k)).length := by rw [← byt_len, hs]
      have hwl := wrd_len (zs.drop k)
      have hwp := wrd_pos (zs.drop k) HQ.out
      rw [← hsz] at hwl hwp
      rw [List.length_drop, HL.out] at hwl
      have HS := Lib.hid hs
      have HSZ := Lib.hid hsz
      clear hb2 hb02 hown2 hs hsz HB01 HOWN1
      have c0 := HOWN2.out.c0
      have c1 := HOWN2.out.c1
      go_wp2_with fail
      refine (with_any t a s (by unfold maxLen; omega) W2).mono ?_
      rintro e W3 ⟨t', a', ht', ha', rfl, hb3⟩
      rw [HS.out] at ht' ha'
      rw [HS.out]
      clear c0 c1
      have hb03 := below_step HB02.out hb3
      have hown3 := HOWN2.out.below hb3
      have HB03 := Lib.hid hb03
      have HOWN3 := Lib.hid hown3
      have HT' := Lib.hid ht'
      have HA2 := Lib.hid ha'
      clear hb3 hb03 hown3 ht' ha' HB02 HOWN2
      have c0 := HOWN3.out.c0
      have c1 := HOWN3.out.c1
      have z0 := HOWN3.out.z0
      have z1 := HOWN3.out.z1
      cases hok : (withF (byt t) (byt a) (wrdF (zs.drop k))).2.2 with
      | false =>
        have hres : takeP zs = ([], [], 0, false) := by rw [HGO.out, goP_bad _ _ _ _ _ _ HQ.out hok]
        have HRES := Lib.hid hres
        clear hok hres hrun
        go_wp2_with fail
        obtain ⟨Y, hY⟩ : ∃ Y, ((((W3.setCell ⟨w.heap.size, 0, none⟩ (.string t')).setCell ⟨w.heap.size, 1, none⟩ (.string a')).setCell ⟨w.heap.size, 0, none⟩ (.string ⟨#[]⟩)).setCell ⟨w.heap.size, 1, none⟩ (.string ⟨#[]⟩)) = Y := ⟨_, rfl⟩
        have hy : Own2 Y w.heap.size 70 ⟨#[]⟩ ⟨#[]⟩ := by rw [← hY]; exact HOWN3.out.set.set
        have hyb : Below w.heap.size w Y := by rw [← hY]; exact set2_below (set2_below HB03.out (Nat.le_refl _)) (Nat.le_refl _)
        rw [hY]
        clear hY c0 c1 z0 z1
        have c0 := hy.c0
        have c1 := hy.c1
        exact bodyPost_ret (v := .tuple #[.agg #[.string ⟨#[]⟩, .string ⟨#[]⟩], .int .i64 0, .bool false]) (by simp [results, Tryz.results32, go_sem, c0, c1]) rfl ⟨⟨#[]⟩, ⟨#[]⟩, by rw [HRES.out]; rfl, by rw [HRES.out]; rfl, by rw [HRES.out]; rfl, hyb⟩
      | true =>
        have hgn := goP_next f _ k m _ _ HQ.out hok
        rw [← HGO.out, ← HSZ.out, ← HT'.out, ← HA2.out] at hgn
        simp only [List.drop_drop] at hgn
        obtain ⟨p, hp⟩ : ∃ p, s.size = p := ⟨_, rfl⟩
        rw [hp] at hwl hwp hgn
        obtain ⟨A2, hrun2, hA2, hrd2⟩ := slice_lI A n c (k + p) ((k : Int) + (p : Int)) (by omega) zs HL.out hnc HA.out (by omega)
        have HRD2 := Lib.hid hrd2
        have HA22 := Lib.hid hA2
        have HGN := Lib.hid hgn
        clear hgn hrd2 hA2 hrun hok
        go_wp2_with fail
        have hb4 : Below w.heap.size w ((W3.setCell ⟨w.heap.size, 0, none⟩ (.string t')).setCell ⟨w.heap.size, 1, none⟩ (.string a')) := set2_below HB03.out (Nat.le_refl _)
        have hown4 : Own2 ((W3.setCell ⟨w.heap.size, 0, none⟩ (.string t')).setCell ⟨w.heap.size, 1, none⟩ (.string a')) w.heap.size 70 t' a' := HOWN3.out.set
        refine (blanks_any A2 (n - (k + p)) (c - (k + p)) (zs.drop (k + p)) _ (by rw [List.length_drop, HL.out]) (by omega) (by omega) (HRD2.out _ (HR.out.below hb4))).mono ?_
        rintro e W4 ⟨rfl, rfl⟩
        have HB4 := Lib.hid hb4
        have HOWN4 := Lib.hid hown4
        have hq := blk_len (zs.drop (k + p))
        rw [List.length_drop, HL.out] at hq
        generalize blkF (zs.drop (k + p)) = q at *
        clear hb4 hown4
        go_wp2_with fail
        go_roundw
        case rel => exact ⟨k + p + q, k + p, by omega, by omega, by go_num, by go_num, f, t', a', by omega, HGN.out, HOWN4.out, HB4.out⟩
        case measure => simp [intOf]; omega
end Go.Proofs.YtnecapmnbaemiaaGreatDoor.Pr
