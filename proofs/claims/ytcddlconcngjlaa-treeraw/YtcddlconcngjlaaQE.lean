/- Chapter 10 (tags, anchors, aliases) as Lean functions on lists of numbers, and what they come to. No program. · The contracts of strings.CutPrefix, strings.TrimPrefix, bytes.CutPrefix, bytes.Index, bytes.Cut at one byte; props.begins, firstWord, blanks, letters. · props.begins, firstWord, blanks, letters, ValidTag, with, Put, TakeAlias. · props.Take. · The document's answers of chapter 10: word, ValidTag, TakeAlias, PutProps. · The document's TakeProps. -/
import Derived.Test.YtcddlconcngjlaaQA
set_option linter.unusedSimpArgs false
set_option linter.unusedVariables false
namespace Go.Proofs.Ytcddlconcngjlaa.Pr
open Go.RowKit
set_option linter.unusedVariables false
set_option maxRecDepth 100000
def cutF (c : Int) : List Int → List Int × Bool
  | x :: t => if x = c then (t, true) else (x :: t, false)
  | [] => ([], false)
def validF (l : List Int) : Bool := (cutF 33 l).2 && ((cutF 33 l).1.isEmpty || nameF (cutF 33 (cutF 33 l).1).1)
def withF (t a l : List Int) : List Int × List Int × Bool :=
  if (cutF 38 l).2 then (if a.isEmpty && nameF (cutF 38 l).1 then (t, (cutF 38 l).1, true) else ([], [], false))
  else (if t.isEmpty && validF l then (l, a, true) else ([], [], false))
def begF : List Int → Bool
  | x :: _ => x == 33 || x == 38
  | [] => false
def wrdF (l : List Int) : List Int := l.takeWhile (· != 32)
def goP : Nat → List Int → Nat → Nat → List Int → List Int → List Int × List Int × Nat × Bool
  | 0, _, _, n, t, a => (t, a, n, true)
  | f + 1, l, i, n, t, a => if begF l then
      (if (withF t a (wrdF l)).2.2 then goP f ((l.drop (wrdF l).length).drop (blkF (l.drop (wrdF l).length))) (i + (wrdF l).length + blkF (l.drop (wrdF l).length)) (i + (wrdF l).length) (withF t a (wrdF l)).1 (withF t a (wrdF l)).2.1
       else ([], [], 0, false))
    else (t, a, n, true)
def takeP (l : List Int) : List Int × List Int × Nat × Bool := goP (l.length + 1) l 0 0 [] []
/-- How many letters of a name stand at the beginning, at most m. -/
def ltrF : Nat → List Int → Nat
  | 0, _ => 0
  | m + 1, x :: t => if nmb x then ltrF m t + 1 else 0
  | _ + 1, [] => 0
def aliasF (l : List Int) : List Int × Nat × Bool :=
  if (cutF 42 l).2 && nameF ((cutF 42 l).1.take (ltrF 33 (cutF 42 l).1)) then ((cutF 42 l).1.take (ltrF 33 (cutF 42 l).1), 1 + ltrF 33 (cutF 42 l).1, true) else ([], 0, false)
def putF (t a : List Int) : List Int := if a.isEmpty then t else if t.isEmpty then 38 :: a else 38 :: a ++ 32 :: t
theorem cut_true (c : Int) (l : List Int) (h : (cutF c l).2 = true) : l = c :: (cutF c l).1 := by
  cases l with
  | nil => simp [cutF] at h
  | cons x t =>
    by_cases hx : x = c
    · subst hx; simp [cutF]
    · simp [cutF, hx] at h
theorem cut_drop (c : Int) (l : List Int) (h : (cutF c l).2 = true) : (cutF c l).1 = l.drop 1 := by
  have := cut_true c l h
  rw [this]; simp [cutF]
theorem wrd_len (l : List Int) : (wrdF l).length ≤ l.length := (List.takeWhile_sublist _).length_le
theorem ltr_len : ∀ (m : Nat) (l : List Int), ltrF m l ≤ l.length ∧ ltrF m l ≤ m := by
  intro m
  induction m with
  | zero => intro l; simp [ltrF]
  | succ m ih =>
    intro l
    cases l with
    | nil => simp [ltrF]
    | cons x t => simp only [ltrF]; have := ih t; split <;> simp <;> omega
theorem ltr_at {l : List Int} {k m : Nat} (h : k < l.length) : ltrF (m + 1) (l.drop k) = if nmb (l.getD k 0) then ltrF m (l.drop (k + 1)) + 1 else 0 := by rw [drop_cons_at h]; simp only [ltrF]
theorem ltr_end {l : List Int} {k m : Nat} (h : l.length ≤ k) : ltrF m (l.drop k) = 0 := by
  rw [List.drop_of_length_le h]; cases m <;> rfl
theorem goP_stop (f : Nat) (l : List Int) (i n : Nat) (t a : List Int) (h : begF l = false) : goP (f + 1) l i n t a = (t, a, n, true) := by
  simp only [goP, h]; rfl
theorem goP_bad (f : Nat) (l : List Int) (i n : Nat) (t a : List Int) (h : begF l = true) (h2 : (withF t a (wrdF l)).2.2 = false) : goP (f + 1) l i n t a = ([], [], 0, false) := by
  simp only [goP, h, h2]; rfl
theorem goP_next (f : Nat) (l : List Int) (i n : Nat) (t a : List Int) (h : begF l = true) (h2 : (withF t a (wrdF l)).2.2 = true) : goP (f + 1) l i n t a =
    goP f ((l.drop (wrdF l).length).drop (blkF (l.drop (wrdF l).length))) (i + (wrdF l).length + blkF (l.drop (wrdF l).length)) (i + (wrdF l).length) (withF t a (wrdF l)).1 (withF t a (wrdF l)).2.1 := by
  simp only [goP, h, h2]; rfl
theorem list_byt (s t : ByteArray) : (s.toList == t.toList) = (byt s == byt t) := by
  have := str_eq (byt s) (byt_byte s) t
  rwa [strOfNums_byt] at this
theorem empty_byt (s : ByteArray) : s.toList.isEmpty = (byt s).isEmpty := by
  have := list_byt s ⟨#[]⟩
  rw [show byt ⟨#[]⟩ = [] from rfl, show (⟨#[]⟩ : ByteArray).toList = [] from by rw [Lib.toList_data]] at this
  apply bool_iff
  rw [List.isEmpty_iff, List.isEmpty_iff]
  constructor
  · intro h; rw [h] at this; exact beq_iff_eq.1 this.symm
  · intro h; rw [h] at this; exact beq_iff_eq.1 this
theorem byt_tail (s : ByteArray) : byt (s.extract 1 s.size) = (byt s).drop 1 := by
  rw [byt_extract, List.take_of_length_le (by rw [List.length_drop, byt_len]; omega)]
theorem one_at {x : Int} : ∀ (k : Nat) (u : Int), [x][k]? = some u → (#[Value.int .u8 x] : Array Value)[k]? = some (Value.int .u8 u) := by
  intro k u h
  match k with
  | 0 => simp at h; subst h; rfl
  | k + 1 => simp at h
/-- A struct of two texts in memory of our own. -/
def Own2 (W : World) (g : Nat) (T : TypeId) (t a : ByteArray) : Prop := W.heap[g]? = some (.cells #[.string t, .string a] T)
section
variable {W W' : World} {g : Nat} {T : TypeId} {t a t' a' : ByteArray}
theorem Own2.lt (h : Own2 W g T t a) : g < W.heap.size := by unfold Own2 at h; exact (Array.getElem?_eq_some_iff.1 h).1
theorem Own2.c0 (h : Own2 W g T t a) : W.cell? ⟨g, 0, none⟩ = some (.string t) := by unfold Own2 at h; simp [World.cell?, h]
theorem Own2.c1 (h : Own2 W g T t a) : W.cell? ⟨g, 1, none⟩ = some (.string a) := by unfold Own2 at h; simp [World.cell?, h]
theorem Own2.z0 (h : Own2 W g T t a) : W.frozen? ⟨g, 0, none⟩ = false := by unfold Own2 at h; simp [World.frozen?, h]
theorem Own2.z1 (h : Own2 W g T t a) : W.frozen? ⟨g, 1, none⟩ = false := by unfold Own2 at h; simp [World.frozen?, h]
theorem Own2.set (h : Own2 W g T t a) : Own2 ((W.setCell ⟨g, 0, none⟩ (.string t')).setCell ⟨g, 1, none⟩ (.string a')) g T t' a' := by
  unfold Own2 at h ⊢; simp [World.setCell, Array.getElem?_modify, h]
theorem Own2.set0 (h : Own2 W g T t a) : Own2 (W.setCell ⟨g, 0, none⟩ (.string t')) g T t' a := by
  unfold Own2 at h ⊢; simp [World.setCell, Array.getElem?_modify, h]
theorem Own2.set1 (h : Own2 W g T t a) : Own2 (W.setCell ⟨g, 1, none⟩ (.string a')) g T t a' := by
  unfold Own2 at h ⊢; simp [World.setCell, Array.getElem?_modify, h]
theorem Own2.below (h : Own2 W g T t a) (hb : Below W.heap.size W W') : Own2 W' g T t a := (hb.block g h.lt).trans h
theorem Own2.new (w : World) (T : TypeId) (t a : ByteArray) : Own2 (w.alloc (.cells #[.string t, .string a] T)) w.heap.size T t a := heap_alloc_new w _
end
theorem set2_below {w W : World} {g : Nat} {y0 y1 : Value} (h : Below w.heap.size w W) (hg : w.heap.size ≤ g) : Below w.heap.size w ((W.setCell ⟨g, 0, none⟩ y0).setCell ⟨g, 1, none⟩ y1) :=
  (h.setCell (p := ⟨g, 0, none⟩) hg _).setCell (p := ⟨g, 1, none⟩) hg _
def AliasP (zs : List Int) (w : World) (e : Ending) (w' : World) : Prop :=
  ∃ s : ByteArray, byt s = (aliasF zs).1 ∧ e = .returned (.tuple #[.string s, .int .i64 ((aliasF zs).2.1 : Int), .bool (aliasF zs).2.2]) ∧ Below w.heap.size w w'
def TakeP (zs : List Int) (w : World) (e : Ending) (w' : World) : Prop :=
  ∃ t a : ByteArray, byt t = (takeP zs).1 ∧ byt a = (takeP zs).2.1 ∧ e = .returned (.tuple #[.agg #[.string t, .string a], .int .i64 ((takeP zs).2.2.1 : Int), .bool (takeP zs).2.2.2]) ∧ Below w.heap.size w w'
def wkL : List Int := [38, 97, 32, 33, 33, 115, 116, 114, 32, 120]
theorem wrd_cons (x : Int) (t : List Int) : wrdF (x :: t) = if x = 32 then [] else x :: wrdF t := by
  unfold wrdF
  rw [List.takeWhile_cons]
  by_cases hx : x = 32
  · subst hx; simp
  · rw [if_neg hx, bne_iff_ne.2 hx]; rfl
set_option maxHeartbeats 1000000 in
theorem refWord_any (A : Option Addr) (n c : Nat) (zs : List Int) (w : World) (hl : zs.length = n) (hnc : n ≤ c) (hm : c ≤ 9223372036854775807) (hA : A = none → c = 0) (hb : Byte zs) (hr : RdB w A zs) :
    Calls Try.prog 98 #[.slice A n c] w fun e w' => (∃ s, byt s = wrdF zs ∧ e = .returned (.string s)) ∧ w = w' := by
  have HR := Lib.hid hr
  have HL := Lib.hid hl
  have HB := Lib.hid hb
  have HA0 := Lib.hid hA
  clear hr hl hb hA
  go_enter Try.func98, Try.ntmps98
  go_wp2
  go_loop [3] (fun i => ∃ k : Nat, k ≤ n ∧ i = .int .i64 (k : Int) ∧ Hid (wrdF zs = zs.take k ++ wrdF (zs.drop k))) (fun i => n - (intOf i).toNat)
  case atStart => exact ⟨0, Nat.zero_le _, rfl, by show _ = _; simp⟩
  case round =>
    obtain ⟨k, hk, rfl, HA⟩ := hrel
    have fin : (wrdF zs = zs.take k) → Hid (byt (strOfNums (zs.take k)) = wrdF zs) := fun h => by
      show _ = _
      rw [h]; exact byt_strOfNums _ (HB.out.take k)
    by_cases hlt : k < n
    · obtain ⟨b, off, rfl, hc⟩ := HR.out.addr (by rw [HL.out]; omega)
      have ck := hc k (by rw [HL.out]; exact hlt)
      have hd := drop_cons_at (l := zs) (k := k) (by rw [HL.out]; exact hlt)
      have ht : zs.take (k + 1) = zs.take k ++ [zs.getD k 0] := by
        rw [List.take_add_one, getD_at (by rw [HL.out]; exact hlt)]; rfl
      have d1 : (k : Int) < (n : Int) := by omega
      generalize zs.getD k 0 = x at *
      by_cases h32 : x = 32
      · subst h32
        have HK := fin (by rw [HA.out, hd, wrd_cons, if_pos rfl, List.append_nil])
        have e1 := slice_h (some ⟨b, off, none⟩) n c k hk hnc HA0.out
        have hcv := run_string_rd w (some ⟨b, off, none⟩) k c (zs.take k) (by rw [List.length_take, HL.out]; omega) (HR.out.take k)
        clear hc hd ht fin
        go_wp2_with fail
        go_ret
        exact ⟨⟨_, HK.out, rfl⟩, rfl⟩
      · have ds : (x != 32) = true := bne_iff_ne.2 h32
        have HK : Hid (wrdF zs = zs.take (k + 1) ++ wrdF (zs.drop (k + 1))) := by show _ = _; rw [HA.out, hd, wrd_cons, if_neg h32, ht, List.append_assoc]; rfl
        clear hc hd ht fin
        go_wp2_with fail
        go_round
        case rel => exact ⟨k + 1, by omega, by go_num, HK⟩
        case measure => simp [intOf]; omega
    · have hkn : k = n := by omega
      have HK := fin (by rw [HA.out, List.drop_of_length_le (by rw [HL.out]; omega)]; simp [wrdF])
      have d1 : decide ((k : Int) < (n : Int)) = false := decide_eq_false (by omega)
      have e1 := slice_h A n c k hk hnc HA0.out
      have hcv := run_string_rd w A k c (zs.take k) (by rw [List.length_take, HL.out]; omega) (HR.out.take k)
      clear fin hkn
      go_wp2_with fail
      go_ret
      exact ⟨⟨_, HK.out, rfl⟩, rfl⟩
/-- The document's ValidTag, as a plain function. -/
theorem valid_ways (l : List Int) : (l = [33] ∧ validF l = true) ∨ (l ≠ [33] ∧ 2 < l.length ∧ l.take 2 = [33, 33] ∧ validF l = nameF (l.drop 2)) ∨
    (l ≠ [33] ∧ (2 < l.length → l.take 2 ≠ [33, 33]) ∧ 1 < l.length ∧ l.head? = some 33 ∧ validF l = nameF (l.drop 1)) ∨
    (l ≠ [33] ∧ (2 < l.length → l.take 2 ≠ [33, 33]) ∧ (l.length ≤ 1 ∨ l.head? ≠ some 33) ∧ validF l = false) := by
  match l with
  | [] => right; right; right; exact ⟨by simp, by simp, by simp, rfl⟩
  | [x] =>
    by_cases hx : x = 33
    · subst hx; left; exact ⟨rfl, by simp [validF, cutF]⟩
    · right; right; right; exact ⟨by simp [hx], by simp, by simp, by simp [validF, cutF, hx]⟩
  | x :: y :: t =>
    by_cases hx : x = 33
    · subst hx
      by_cases hy : y = 33
      · subst hy
        cases t with
        | nil => right; right; left; exact ⟨by simp, by simp, by simp, rfl, by simp [validF, cutF, nameF, nmb, dgt]⟩
        | cons z t => right; left; exact ⟨by simp, by simp, rfl, by simp [validF, cutF]⟩
      · right; right; left; exact ⟨by simp, by simp [hy], by simp, rfl, by simp [validF, cutF, hy]⟩
    · right; right; right; exact ⟨by simp, by simp [hx], by simp [hx], by simp [validF, cutF, hx]⟩
set_option maxHeartbeats 1000000 in
theorem refValid_any (s : ByteArray) (hs : s.size ≤ maxLen) (w : World) :
    Calls Try.prog 99 #[.string s] w fun e w' => e = .returned (.bool (validF (byt s))) ∧ w = w' := by
  have hs' := hs
  unfold maxLen at hs'
  have h33 : (s.toList == [33]) = (byt s == [33]) := by
    have := list_byt s ⟨#[33]⟩
    rwa [show (⟨#[33]⟩ : ByteArray).toList = [33] from by rw [Lib.toList_data]] at this
  have h2 : ∀ u : ByteArray, (u.toList == [33, 33]) = (byt u == [33, 33]) := fun u => by
    have := list_byt u ⟨#[33, 33]⟩
    rwa [show (⟨#[33, 33]⟩ : ByteArray).toList = [33, 33] from by rw [Lib.toList_data]] at this
  rcases valid_ways (byt s) with ⟨h1, hv⟩ | ⟨h1, hl, ht, hv⟩ | ⟨h1, ht, hl, hh, hv⟩ | ⟨h1, ht, hl, hv⟩
  · rw [hv]
    have t1 : (s.toList == [33]) = true := by rw [h33, h1]; rfl
    clear h33 h2 h1 hv
    go_enter Try.func99, Try.ntmps99
    go_wp2_with fail
    go_ret
    exact ⟨rfl, rfl⟩
  · rw [hv]
    have t1 : (s.toList == [33]) = false := by rw [h33]; exact beq_eq_false_iff_ne.2 h1
    rw [byt_len] at hl
    have t2 : ((s.extract 0 2).toList == [33, 33]) = true := by rw [h2, byt_extract]; simp only [List.drop_zero]; rw [ht]; rfl
    have d2 : (2 : Int) < (s.size : Int) := by omega
    obtain ⟨u, hu⟩ : ∃ u, s.extract 2 s.size = u := ⟨_, rfl⟩
    have hub : byt u = (byt s).drop 2 := by rw [← hu, byt_extract, List.take_of_length_le (by rw [List.length_drop, byt_len]; omega)]
    have NC := Lib.hid (refName_any u w (by rw [← hu, ByteArray.size_extract]; omega))
    rw [hub] at NC
    clear h33 h2 h1 ht hv hub
    go_enter Try.func99, Try.ntmps99
    go_wp2_with (go_at_call 100; refine NC.out.mono ?_; rintro e w' ⟨rfl, rfl⟩)
    go_ret
    exact ⟨rfl, rfl⟩
  · rw [hv]
    have t1 : (s.toList == [33]) = false := by rw [h33]; exact beq_eq_false_iff_ne.2 h1
    rw [byt_len] at hl
    have d1 : (1 : Int) < (s.size : Int) := by omega
    obtain ⟨u, hu⟩ : ∃ u, s.extract 1 s.size = u := ⟨_, rfl⟩
    have hub : byt u = (byt s).drop 1 := by rw [← hu, byt_tail]
    have NC := Lib.hid (refName_any u w (by rw [← hu, ByteArray.size_extract]; omega))
    rw [hub] at NC
    have hix : ∀ W, (Instr.index 9 (.string s) (.int .i64 0)).run Try.prog W = .ok (.int .u8 33) W := fun W => by
      have := run_index_string (P := Try.prog) W 9 s .i64 0 Try.underlying9
      rw [dif_pos (by omega)] at this
      rw [this]
      have h0 := byt_at s 0 (by omega)
      rw [← List.head?_eq_getElem?, hh] at h0
      injection h0 with h0
      have : ((s[(0 : Int).toNat]'(by omega)).toNat : Int) = 33 := h0.symm
      rw [this]
    generalize nameF ((byt s).drop 1) = v at *
    by_cases hsz : 2 < s.size
    · have d2 : (2 : Int) < (s.size : Int) := by omega
      have t2 : ((s.extract 0 2).toList == [33, 33]) = false := by rw [h2, byt_extract]; simp only [List.drop_zero]; exact beq_eq_false_iff_ne.2 (ht (by rw [byt_len]; exact hsz))
      clear h33 h2 h1 ht hv hub hh
      go_enter Try.func99, Try.ntmps99
      go_wp2_with (go_at_call 100; refine NC.out.mono ?_; rintro e w' ⟨rfl, rfl⟩)
      go_ret
      exact ⟨rfl, rfl⟩
    · have d2 : decide ((2 : Int) < (s.size : Int)) = false := decide_eq_false (by omega)
      clear h33 h2 h1 ht hv hub hh
      go_enter Try.func99, Try.ntmps99
      go_wp2_with (go_at_call 100; refine NC.out.mono ?_; rintro e w' ⟨rfl, rfl⟩)
      go_ret
      exact ⟨rfl, rfl⟩
  · rw [hv]
    have t1 : (s.toList == [33]) = false := by rw [h33]; exact beq_eq_false_iff_ne.2 h1
    rw [byt_len] at hl
    by_cases h1s : 1 < s.size
    · have d1 : (1 : Int) < (s.size : Int) := by omega
      obtain ⟨x, hx, hix⟩ : ∃ x : Int, (x == 33) = false ∧ ∀ W, (Instr.index 9 (.string s) (.int .i64 0)).run Try.prog W = .ok (.int .u8 x) W := by
        refine ⟨((s[0]'(by omega)).toNat : Int), ?_, fun W => ?_⟩
        · have h0 := byt_at s 0 (by omega)
          rw [← List.head?_eq_getElem?] at h0
          rcases hl with h | h
          · omega
          · rw [h0] at h
            exact beq_eq_false_iff_ne.2 (fun e => h (by rw [e]))
        · have := run_index_string (P := Try.prog) W 9 s .i64 0 Try.underlying9
          rw [dif_pos (by omega)] at this
          rw [this]; rfl
      by_cases hsz : 2 < s.size
      · have d2 : (2 : Int) < (s.size : Int) := by omega
        have t2 : ((s.extract 0 2).toList == [33, 33]) = false := by rw [h2, byt_extract]; simp only [List.drop_zero]; exact beq_eq_false_iff_ne.2 (ht (by rw [byt_len]; exact hsz))
        clear h33 h2 h1 ht hv hl
        go_enter Try.func99, Try.ntmps99
        go_wp2_with fail
        go_ret
        exact ⟨rfl, rfl⟩
      · have d2 : decide ((2 : Int) < (s.size : Int)) = false := decide_eq_false (by omega)
        clear h33 h2 h1 ht hv hl
        go_enter Try.func99, Try.ntmps99
        go_wp2_with fail
        go_ret
        exact ⟨rfl, rfl⟩
    · have d2 : decide ((2 : Int) < (s.size : Int)) = false := decide_eq_false (by omega)
      have d1 : decide ((1 : Int) < (s.size : Int)) = false := decide_eq_false (by omega)
      clear h33 h2 h1 ht hv hl
      go_enter Try.func99, Try.ntmps99
      go_wp2_with fail
      go_ret
      exact ⟨rfl, rfl⟩
theorem refAlias_eq (l : List Int) : ∀ m, 33 ≤ m → nameF (l.take (ltrF m l)) = nameF (l.take (ltrF 33 l)) ∧ (nameF (l.take (ltrF 33 l)) = true → ltrF m l = ltrF 33 l) := by
  intro m hm
  have key : ∀ (n m : Nat) (l : List Int), n ≤ m → ltrF n l = min n (ltrF m l) := by
    intro n
    induction n with
    | zero => intro m l _; simp [ltrF]
    | succ n ih =>
      intro m l h
      obtain ⟨m, rfl⟩ : ∃ q, m = q + 1 := ⟨m - 1, by omega⟩
      cases l with
      | nil => simp [ltrF]
      | cons x t =>
        simp only [ltrF]
        have := ih m t (by omega)
        split
        · omega
        · omega
  have h1 := key 33 m l hm
  have h2 := ltr_len m l
  by_cases h : ltrF m l ≤ 32
  · have : ltrF 33 l = ltrF m l := by omega
    rw [this]; exact ⟨rfl, fun _ => rfl⟩
  · have e : ltrF 33 l = 33 := by omega
    have f1 : nameF (l.take (ltrF m l)) = false := nameF_len _ (.inr (by rw [List.length_take]; omega))
    have f2 : nameF (l.take (ltrF 33 l)) = false := nameF_len _ (.inr (by rw [List.length_take]; omega))
    rw [f1, f2]; exact ⟨rfl, fun h => by cases h⟩
theorem ltr_all (l : List Int) (k : Nat) (hk : k < l.length) : ltrF (l.length - k) (l.drop k) = if nmb (l.getD k 0) then ltrF (l.length - (k + 1)) (l.drop (k + 1)) + 1 else 0 := by
  rw [show l.length - k = l.length - (k + 1) + 1 by omega, ltr_at hk]
set_option maxHeartbeats 1000000 in
theorem refAlias_any (A : Option Addr) (n c : Nat) (zs : List Int) (w : World) (hl : zs.length = n) (hnc : n ≤ c) (hm : c ≤ 9223372036854775807) (hA : A = none → c = 0) (hb : Byte zs) (hr : RdB w A zs) :
    Calls Try.prog 87 #[.slice A n c] w (AliasP zs w) := by
  unfold AliasP
  have hz : zs = [] ∨ ∃ x t, zs = x :: t := by cases zs; exact .inl rfl; exact .inr ⟨_, _, rfl⟩
  rcases hz with rfl | ⟨x, t, rfl⟩
  · obtain rfl : n = 0 := by simpa using hl.symm
    clear hr hl
    go_enter Try.func87, Try.ntmps87
    go_wp2_with fail
    go_ret3
    exact ⟨⟨#[]⟩, rfl, rfl, Below.refl _ _⟩
  · obtain ⟨b, off, rfl, hc⟩ := hr.cons
    have hn : 1 ≤ n := by rw [← hl]; simp
    have d0 : ((n : Int) == 0) = false := beq_eq_false_iff_ne.2 (by omega)
    have d0' : (0 : Int) < (n : Int) := by omega
    have c0 := hc 0 x rfl
    rw [Nat.add_zero] at c0
    by_cases hx : x = 42
    · subst hx
      have ha : aliasF (42 :: t) = if nameF (t.take (ltrF 33 t)) then (t.take (ltrF 33 t), 1 + ltrF 33 t, true) else ([], 0, false) := by simp [aliasF, cutF]
      have HAF := Lib.hid ha
      have HR := Lib.hid hr
      have HL := Lib.hid hl
      have HB := Lib.hid hb
      have HA0 := Lib.hid hA
      clear hr hl hb hA ha hc
      go_enter Try.func87, Try.ntmps87
      go_wp2_with fail
      go_loop [5] (fun i => ∃ k : Nat, 1 ≤ k ∧ k ≤ n ∧ i = .int .i64 (k : Int) ∧ Hid (ltrF (n - 1) t = k - 1 + ltrF (n - k) ((42 :: t).drop k))) (fun i => n - (intOf i).toNat)
      case atStart => exact ⟨1, by omega, by omega, rfl, by show _ = _; simp⟩
      case round =>
        obtain ⟨k, hk1, hk, rfl, HK⟩ := hrel
        have fin : ltrF (n - 1) t = k - 1 → Hid (nameF (t.take (k - 1)) = nameF (t.take (ltrF 33 t)) ∧ (nameF (t.take (ltrF 33 t)) = true → k - 1 = ltrF 33 t)) := fun h => by
          show _ ∧ _
          rw [← h]
          by_cases hn33 : 33 ≤ n - 1
          · exact refAlias_eq t (n - 1) hn33
          · have hlt : t.length = n - 1 := by have := HL.out; simp at this; omega
            have : ltrF (n - 1) t = ltrF 33 t := by
              have key : ∀ (l : List Int) (m : Nat), l.length ≤ m → ltrF m l = ltrF l.length l := by
                intro l
                induction l with
                | nil => intro m _; cases m <;> rfl
                | cons x t ih =>
                  intro m h
                  obtain ⟨m, rfl⟩ : ∃ q, m = q + 1 := ⟨m - 1, by simp at h; omega⟩
                  simp only [ltrF, List.length_cons]
                  rw [ih m (by simpa using h)]
              rw [← hlt, key t 33 (by omega)]
            rw [this]; exact ⟨rfl, fun _ => rfl⟩
        have done_ : ltrF (n - 1) t = k - 1 → ∃ (A' : Option Addr) (s : ByteArray), byt s = t.take (k - 1) ∧ s.size ≤ maxLen ∧
            (∀ W, (Instr.slice 96 (.slice (some ⟨b, off, none⟩) n c) (some (.int .i64 1)) (some (.int .i64 (k : Int))) none).run Try.prog W = .ok (.slice A' (k - 1) (c - 1)) W) ∧
            ((convert 96 9 (.slice A' (k - 1) (c - 1))).run Try.prog w = .ok (.string s) w) := fun h => by
          obtain ⟨A', hrun, hA', hrd⟩ := slice_lh (some ⟨b, off, none⟩) n c 1 k (42 :: t) HL.out hnc HA0.out hk1 hk
          have hrw := hrd w HR.out
          have hlt : t.length = n - 1 := by have := HL.out; simp at this; omega
          rw [show List.drop 1 ((42 : Int) :: t) = t from rfl] at hrw
          have hcv := run_string_rd w A' (k - 1) (c - 1) (t.take (k - 1)) (by rw [List.length_take]; omega) hrw
          refine ⟨A', _, byt_strOfNums _ (fun z hz => HB.out z (by simp [List.mem_of_mem_take hz])), by rw [strOfNums_size, List.length_take]; unfold maxLen; omega, hrun, hcv⟩
        have last : ltrF (n - 1) t = k - 1 → True := fun _ => trivial
        by_cases hlt : k < n
        · have hcl : k < ((42 : Int) :: t).length := by rw [HL.out]; exact hlt
          obtain ⟨b', off', e', hc⟩ := HR.out.addr (by rw [HL.out]; omega)
          injection e' with e'
          injection e' with e1 e2
          subst e1 e2
          have ck := hc k hcl
          have hla := ltr_all _ k hcl
          rw [HL.out] at hla
          have d1 : (k : Int) < (n : Int) := by omega
          generalize ((42 : Int) :: t).getD k 0 = z at *
          cases hq : nmb z with
          | true =>
            have HK2 : Hid (ltrF (n - 1) t = k + 1 - 1 + ltrF (n - (k + 1)) ((42 :: t).drop (k + 1))) := by show _ = _; rw [HK.out, hla, hq]; simp; omega
            clear hla fin done_ last hc
            go_wp2_with (go_at_call 101; refine (letter_any _ _).mono ?_; rintro e w' ⟨rfl, rfl⟩)
            go_round
            case rel => exact ⟨k + 1, by omega, by omega, by go_num, HK2⟩
            case measure => simp [intOf]; omega
          | false =>
            have hfin : ltrF (n - 1) t = k - 1 := by rw [HK.out, hla, hq]; simp
            have HF := fin hfin
            obtain ⟨A', s, hsb, hss, hrun, hcv⟩ := done_ hfin
            have NC := Lib.hid (refName_any s w hss)
            rw [hsb, HF.out.1] at NC
            have HSB := Lib.hid hsb
            clear hla fin done_ last hc hsb hfin
            cases hnm : nameF (t.take (ltrF 33 t)) with
            | true =>
              have HNM := Lib.hid hnm
              have hk2 := HF.out.2 hnm
              have HK2 := Lib.hid hk2
              rw [hnm] at NC
              clear hnm hk2 HF
              go_wp2_with (first | (go_at_call 101; refine (letter_any _ _).mono ?_; rintro e w' ⟨rfl, rfl⟩) | (go_at_call 100; refine NC.out.mono ?_; rintro e w' ⟨rfl, rfl⟩))
              go_ret3
              exact ⟨s, by rw [HAF.out, HNM.out, HSB.out, HK2.out]; rfl, by rw [HAF.out, HNM.out, ← HK2.out]; simp; omega, Below.refl _ _⟩
            | false =>
              have HNM := Lib.hid hnm
              rw [hnm] at NC
              clear hnm HF
              go_wp2_with (first | (go_at_call 101; refine (letter_any _ _).mono ?_; rintro e w' ⟨rfl, rfl⟩) | (go_at_call 100; refine NC.out.mono ?_; rintro e w' ⟨rfl, rfl⟩))
              go_ret3
              exact ⟨⟨#[]⟩, by rw [HAF.out, HNM.out]; rfl, by rw [HAF.out, HNM.out]; rfl, Below.refl _ _⟩
        · have hfin : ltrF (n - 1) t = k - 1 := by rw [HK.out, ltr_end (by rw [HL.out]; omega)]; omega
          have d1 : decide ((k : Int) < (n : Int)) = false := decide_eq_false (by omega)
          have HF := fin hfin
          obtain ⟨A', s, hsb, hss, hrun, hcv⟩ := done_ hfin
          have NC := Lib.hid (refName_any s w hss)
          rw [hsb, HF.out.1] at NC
          have HSB := Lib.hid hsb
          clear fin done_ last hsb hfin
          cases hnm : nameF (t.take (ltrF 33 t)) with
          | true =>
            have HNM := Lib.hid hnm
            have hk2 := HF.out.2 hnm
            have HK2 := Lib.hid hk2
            rw [hnm] at NC
            clear hnm hk2 HF
            go_wp2_with (first | (go_at_call 100; refine NC.out.mono ?_; rintro e w' ⟨rfl, rfl⟩))
            go_ret3
            exact ⟨s, by rw [HAF.out, HNM.out, HSB.out, HK2.out]; rfl, by rw [HAF.out, HNM.out, ← HK2.out]; simp; omega, Below.refl _ _⟩
          | false =>
            have HNM := Lib.hid hnm
            rw [hnm] at NC
            clear hnm HF
            go_wp2_with (first | (go_at_call 100; refine NC.out.mono ?_; rintro e w' ⟨rfl, rfl⟩))
            go_ret3
            exact ⟨⟨#[]⟩, by rw [HAF.out, HNM.out]; rfl, by rw [HAF.out, HNM.out]; rfl, Below.refl _ _⟩
    · have dx : (x != 42) = true := bne_iff_ne.2 hx
      have ha : aliasF (x :: t) = ([], 0, false) := by simp [aliasF, cutF, hx]
      have HAF := Lib.hid ha
      clear hr hl hb hA ha hc
      go_enter Try.func87, Try.ntmps87
      go_wp2_with fail
      go_ret3
      exact ⟨⟨#[]⟩, by rw [HAF.out]; rfl, by rw [HAF.out]; rfl, Below.refl _ _⟩
theorem word_ways (l : List Int) : (begF l = false ∧ (wrdF l = [] ∨ ∃ x t, wrdF l = x :: t ∧ x ≠ 33 ∧ x ≠ 38)) ∨
    (begF l = true ∧ ∃ t, wrdF l = 33 :: t ∧ ∀ T A : List Int, withF T A (wrdF l) = if T.isEmpty && validF (wrdF l) then (wrdF l, A, true) else ([], [], false)) ∨
    (begF l = true ∧ ∃ t, wrdF l = 38 :: t ∧ ∀ T A : List Int, withF T A (wrdF l) = if A.isEmpty && nameF t then (T, t, true) else ([], [], false)) := by
  cases l with
  | nil => exact .inl ⟨rfl, .inl rfl⟩
  | cons x t =>
    rw [wrd_cons]
    by_cases h32 : x = 32
    · subst h32; exact .inl ⟨rfl, .inl rfl⟩
    · rw [if_neg h32]
      by_cases h33 : x = 33
      · subst h33; exact .inr (.inl ⟨rfl, _, rfl, fun T A => by simp [withF, cutF]⟩)
      · by_cases h38 : x = 38
        · subst h38; exact .inr (.inr ⟨rfl, _, rfl, fun T A => by simp [withF, cutF]⟩)
        · exact .inl ⟨by simp [begF, h33, h38], .inr ⟨x, _, rfl, h33, h38⟩⟩
/-- A text that is not empty: its first byte, and the rest. -/
theorem split_byt (s : ByteArray) (x : Int) (t : List Int) (h : byt s = x :: t) : 1 ≤ s.size ∧ s.toList.isEmpty = false ∧ byt (s.extract 1 s.size) = t ∧ ∀ W, (Instr.index 9 (.string s) (.int .i64 0)).run Try.prog W = .ok (.int .u8 x) W := by
  have hs : s.size = t.length + 1 := by rw [← byt_len, h]; rfl
  refine ⟨by omega, by rw [empty_byt, h]; rfl, by rw [byt_tail, h]; rfl, fun W => ?_⟩
  have := run_index_string (P := Try.prog) W 9 s .i64 0 Try.underlying9
  rw [dif_pos (by omega)] at this
  rw [this]
  have h0 := byt_at s 0 (by omega)
  rw [h] at h0
  injection h0 with h0
  have : ((s[(0 : Int).toNat]'(by omega)).toNat : Int) = x := h0.symm
  rw [this]
set_option maxHeartbeats 3000000 in
theorem refTake_any (A : Option Addr) (n c : Nat) (zs : List Int) (w : World) (hl : zs.length = n) (hnc : n ≤ c) (hm : c ≤ 9223372036854775807) (hA : A = none → c = 0) (hb : Byte zs) (hr : RdB w A zs) :
    Calls Try.prog 85 #[.slice A n c] w (TakeP zs w) := by
  have HR := Lib.hid hr
  have HB := Lib.hid hb
  have HL := Lib.hid hl
  have HA := Lib.hid hA
  clear hr hb hl hA
  unfold TakeP
  go_enter Try.func85, Try.ntmps85
  go_wp2_with fail
  obtain ⟨g, hg⟩ : ∃ g, w.heap.size + 1 = g := ⟨_, rfl⟩
  have hgw : w.heap.size < g := by omega
  have START : Hid (Own2 ((w.alloc (.cells #[.string ⟨#[]⟩, .string ⟨#[]⟩] 113)).alloc (.cells #[.string ⟨#[]⟩, .string ⟨#[]⟩] 113)) g 113 ⟨#[]⟩ ⟨#[]⟩ ∧ Own2 ((w.alloc (.cells #[.string ⟨#[]⟩, .string ⟨#[]⟩] 113)).alloc (.cells #[.string ⟨#[]⟩, .string ⟨#[]⟩] 113)) w.heap.size 113 ⟨#[]⟩ ⟨#[]⟩ ∧
      Below w.heap.size w ((w.alloc (.cells #[.string ⟨#[]⟩, .string ⟨#[]⟩] 113)).alloc (.cells #[.string ⟨#[]⟩, .string ⟨#[]⟩] 113))) := by
    refine ⟨?_, ?_, ((Below.refl _ _).alloc (Nat.le_refl _) _).alloc (by simp) _⟩
    · have := Own2.new (w.alloc (.cells #[.string ⟨#[]⟩, .string ⟨#[]⟩] 113)) 113 ⟨#[]⟩ ⟨#[]⟩
      rw [show (w.alloc (.cells #[.string ⟨#[]⟩, .string ⟨#[]⟩] 113)).heap.size = g by simp [hg]] at this
      exact this
    · exact (Own2.new w 113 ⟨#[]⟩ ⟨#[]⟩).below ((Below.refl _ _).alloc (Nat.le_refl _) _)
  try rw [hg]
  clear hg
  go_loopw [6, 7] (fun nn i W => ∃ (k m : Nat), k ≤ n ∧ m ≤ n ∧ nn = .int .i64 (m : Int) ∧ i = .int .i64 (k : Int) ∧
    Hid (∃ (f : Nat) (t a : ByteArray), n - k < f ∧ takeP zs = goP f (zs.drop k) k m (byt t) (byt a) ∧ Own2 W g 113 t a ∧ Own2 W w.heap.size 113 ⟨#[]⟩ ⟨#[]⟩ ∧ Below w.heap.size w W)) (fun _ i _ => n - (intOf i).toNat)
  case atStart => exact ⟨0, 0, by omega, by omega, rfl, rfl, n + 1, ⟨#[]⟩, ⟨#[]⟩, by omega, by rw [← HL.out]; rfl, START.out⟩
  case round =>
    obtain ⟨k, m, hk, hmn, rfl, rfl, HK⟩ := hrel
    obtain ⟨W, hW⟩ : ∃ x, x = wr := ⟨_, rfl⟩
    subst hW
    obtain ⟨f, t, a, hf, hgo, hown, hres0, hbel⟩ := HK.out
    obtain ⟨f, rfl⟩ : ∃ g, f = g + 1 := ⟨f - 1, by omega⟩
    have HGO := Lib.hid hgo
    have HOWN := Lib.hid hown
    have HRES0 := Lib.hid hres0
    have HBEL := Lib.hid hbel
    have c0 := hown.c0
    have c1 := hown.c1
    have y0 := hres0.c0
    have y1 := hres0.c1
    have z0 := hown.z0
    have z1 := hown.z1
    have x0 := hres0.z0
    have x1 := hres0.z1
    clear hgo hown hbel hres0 HK START
    by_cases hlt : k < n
    · have d1 : (k : Int) < (n : Int) := by omega
      obtain ⟨A', hrun, hA', hrd⟩ := slice_l A n c k zs HL.out hnc HA.out hk
      have HWORD := Lib.hid (refWord_any A' (n - k) (c - k) (zs.drop k) W (by rw [List.length_drop, HL.out]) (by omega) (by omega) hA' (HB.out.drop k) (hrd W (HR.out.below HBEL.out)))
      clear hA' hrd
      go_wp2_with fail
      refine HWORD.out.mono ?_
      rintro e w' ⟨⟨s, hs, rfl⟩, rfl⟩
      clear HWORD hrun
      have hsz : s.size = (wrdF (zs.drop k)).length := by rw [← byt_len, hs]
      have hwl := wrd_len (zs.drop k)
      rw [← hsz, List.length_drop, HL.out] at hwl
      have HSZ := Lib.hid hsz
      clear hsz
      rcases word_ways (zs.drop k) with ⟨hq, hw⟩ | ⟨hq, u, hw, hwf⟩ | ⟨hq, u, hw, hwf⟩
      · have HRES : Hid (takeP zs = (byt t, byt a, m, true)) := by show _ = _; rw [HGO.out, goP_stop _ _ _ _ _ _ hq]
        rcases hw with hw | ⟨x, u, hw, h33, h38⟩
        · have he : s.toList.isEmpty = true := by rw [empty_byt, hs, hw]; rfl
          clear hs hw hq
          go_wp2_with fail
          obtain ⟨Y, hY⟩ : ∃ Y, ((W.setCell ⟨w.heap.size, 0, none⟩ (.string t)).setCell ⟨w.heap.size, 1, none⟩ (.string a)) = Y := ⟨_, rfl⟩
          have hy : Own2 Y w.heap.size 113 t a := by rw [← hY]; exact HRES0.out.set
          have hyb : Below w.heap.size w Y := by rw [← hY]; exact set2_below HBEL.out (Nat.le_refl _)
          rw [hY]
          clear hY c0 c1 z0 z1 y0 y1 x0 x1
          have c0 : Y.cell? ⟨w.heap.size, 0, none⟩ = some (.string t) := hy.c0
          have c1 : Y.cell? ⟨w.heap.size, 1, none⟩ = some (.string a) := hy.c1
          exact bodyPost_ret (v := .tuple #[.agg #[.string t, .string a], .int .i64 (m : Int), .bool true]) (by simp [results, Try.results85, go_sem, c0, c1]) rfl ⟨t, a, by rw [HRES.out], by rw [HRES.out], by rw [HRES.out], hyb⟩
        · obtain ⟨hs1, he, -, hix⟩ := split_byt s x u (by rw [hs, hw])
          have e33 : (x == 33) = false := beq_eq_false_iff_ne.2 h33
          have e38 : (x == 38) = false := beq_eq_false_iff_ne.2 h38
          clear hs hw hq
          go_wp2_with fail
          obtain ⟨Y, hY⟩ : ∃ Y, ((W.setCell ⟨w.heap.size, 0, none⟩ (.string t)).setCell ⟨w.heap.size, 1, none⟩ (.string a)) = Y := ⟨_, rfl⟩
          have hy : Own2 Y w.heap.size 113 t a := by rw [← hY]; exact HRES0.out.set
          have hyb : Below w.heap.size w Y := by rw [← hY]; exact set2_below HBEL.out (Nat.le_refl _)
          rw [hY]
          clear hY c0 c1 z0 z1 y0 y1 x0 x1
          have c0 : Y.cell? ⟨w.heap.size, 0, none⟩ = some (.string t) := hy.c0
          have c1 : Y.cell? ⟨w.heap.size, 1, none⟩ = some (.string a) := hy.c1
          exact bodyPost_ret (v := .tuple #[.agg #[.string t, .string a], .int .i64 (m : Int), .bool true]) (by simp [results, Try.results85, go_sem, c0, c1]) rfl ⟨t, a, by rw [HRES.out], by rw [HRES.out], by rw [HRES.out], hyb⟩
      · have HQ := Lib.hid hq
        obtain ⟨hs1, he, -, hix⟩ := split_byt s 33 u (by rw [hs, hw])
        have hwp : 1 ≤ s.size := hs1
        have hwv := hwf (byt t) (byt a)
        rw [← hs] at hwv
        have hbs : wrdF (zs.drop k) = byt s := hs.symm
        have VC := Lib.hid (refValid_any s (by unfold maxLen; omega) W)
        have hbad : (withF (byt t) (byt a) (byt s)).2.2 = false → Hid (takeP zs = ([], [], 0, false)) := fun h => by
          show _ = _
          rw [HGO.out, goP_bad _ _ _ _ _ _ HQ.out (by rw [hbs]; exact h)]
        clear hw hwf hq
        cases hte : t.toList.isEmpty with
        | false =>
          have HRES := hbad (by rw [hwv, ← empty_byt, hte]; rfl)
          clear hbad hwv hs hbs VC
          go_wp2_with fail
          obtain ⟨Y, hY⟩ : ∃ Y, ((W.setCell ⟨w.heap.size, 0, none⟩ (.string ⟨#[]⟩)).setCell ⟨w.heap.size, 1, none⟩ (.string ⟨#[]⟩)) = Y := ⟨_, rfl⟩
          have hy : Own2 Y w.heap.size 113 ⟨#[]⟩ ⟨#[]⟩ := by rw [← hY]; exact HRES0.out.set
          have hyb : Below w.heap.size w Y := by rw [← hY]; exact set2_below HBEL.out (Nat.le_refl _)
          rw [hY]
          clear hY c0 c1 z0 z1 y0 y1 x0 x1
          have c0 := hy.c0
          have c1 := hy.c1
          exact bodyPost_ret (v := .tuple #[.agg #[.string ⟨#[]⟩, .string ⟨#[]⟩], .int .i64 0, .bool false]) (by simp [results, Try.results85, go_sem, c0, c1]) rfl ⟨⟨#[]⟩, ⟨#[]⟩, by rw [HRES.out]; rfl, by rw [HRES.out]; rfl, by rw [HRES.out]; rfl, hyb⟩
        | true =>
          cases hvl : validF (byt s) with
          | false =>
            have HRES := hbad (by rw [hwv, hvl, Bool.and_false]; rfl)
            rw [hvl] at VC
            clear hbad hwv hs hbs hvl
            go_wp2_with (go_at_call 99; refine VC.out.mono ?_; rintro e w' ⟨rfl, rfl⟩)
            obtain ⟨Y, hY⟩ : ∃ Y, ((W.setCell ⟨w.heap.size, 0, none⟩ (.string ⟨#[]⟩)).setCell ⟨w.heap.size, 1, none⟩ (.string ⟨#[]⟩)) = Y := ⟨_, rfl⟩
            have hy : Own2 Y w.heap.size 113 ⟨#[]⟩ ⟨#[]⟩ := by rw [← hY]; exact HRES0.out.set
            have hyb : Below w.heap.size w Y := by rw [← hY]; exact set2_below HBEL.out (Nat.le_refl _)
            rw [hY]
            clear hY c0 c1 z0 z1 y0 y1 x0 x1
            have c0 := hy.c0
            have c1 := hy.c1
            exact bodyPost_ret (v := .tuple #[.agg #[.string ⟨#[]⟩, .string ⟨#[]⟩], .int .i64 0, .bool false]) (by simp [results, Try.results85, go_sem, c0, c1]) rfl ⟨⟨#[]⟩, ⟨#[]⟩, by rw [HRES.out]; rfl, by rw [HRES.out]; rfl, by rw [HRES.out]; rfl, hyb⟩
          | true =>
            rw [hvl] at VC
            rw [hvl, ← empty_byt, hte] at hwv
            rw [← hbs] at hwv
            have HBS := Lib.hid hs
            have hwv : withF (byt t) (byt a) (wrdF (zs.drop k)) = (byt s, byt a, true) := by rw [hwv, hbs]; rfl
            clear hbad hs hbs hvl
            have hgn := goP_next f _ k m (byt t) (byt a) HQ.out (by rw [hwv])
            rw [hwv, ← HGO.out, ← HSZ.out] at hgn
            simp only [List.drop_drop] at hgn
            obtain ⟨p, hp⟩ : ∃ p, s.size = p := ⟨_, rfl⟩
            rw [hp] at hwl hwp hgn
            try rw [hp] at hv
            have HGN := Lib.hid hgn
            clear hgn hwv
            go_wp2_with (go_at_call 99; refine VC.out.mono ?_; rintro e w' ⟨rfl, rfl⟩)
            obtain ⟨X, hX⟩ : ∃ X, W.setCell ⟨g, 0, none⟩ (.string s) = X := ⟨_, rfl⟩
            have HX : Hid (Own2 X g 113 s a ∧ Own2 X w.heap.size 113 ⟨#[]⟩ ⟨#[]⟩ ∧ Below w.heap.size w X) := by
              refine ⟨by rw [← hX]; exact HOWN.out.set0, ?_, by rw [← hX]; exact HBEL.out.setCell (p := ⟨g, 0, none⟩) (by show _ ≤ g; omega) _⟩
              rw [← hX]
              have := HRES0.out
              unfold Own2 at this ⊢
              simp [World.setCell, Array.getElem?_modify, this, show ¬ g = w.heap.size by omega]
            rw [hX]
            clear hX c0 c1 z0 z1 y0 y1 x0 x1
            go_loop [7] (fun i => ∃ j : Nat, k + p + j ≤ n ∧ i = .int .i64 ((k : Int) + (p : Int) + (j : Int)) ∧ Hid (blkF (zs.drop (k + p)) = j + blkF (zs.drop (k + p + j)))) (fun i => n - (intOf i).toNat)
            case atStart => exact ⟨0, by omega, by simp, by show _ = _; simp⟩
            case round =>
              obtain ⟨j, hj, rfl, HJ⟩ := hrel
              by_cases hlt2 : k + p + j < n
              · obtain ⟨b, off, e', hc⟩ := (HR.out.below HX.out.2.2).addr (by rw [HL.out]; omega)
                subst e'
                have ck := hc (k + p + j) (by rw [HL.out]; exact hlt2)
                have hbk := blk_at (l := zs) (k := k + p + j) (by rw [HL.out]; exact hlt2)
                have d2 : (k : Int) + (p : Int) + (j : Int) < (n : Int) := by omega
                have htn : ((k : Int) + (p : Int) + (j : Int)).toNat = k + p + j := by omega
                generalize zs.getD (k + p + j) 0 = z at *
                by_cases h32 : z = 32
                · subst h32
                  have HJ2 : Hid (blkF (zs.drop (k + p)) = j + 1 + blkF (zs.drop (k + p + (j + 1)))) := by show _ = _; rw [HJ.out, hbk, if_pos rfl, show k + p + (j + 1) = k + p + j + 1 by omega]; omega
                  clear hbk hc
                  go_wp2_with fail
                  go_round
                  case rel => exact ⟨j + 1, by omega, by go_num, HJ2⟩
                  case measure => simp [intOf]; omega
                · have ds : (z == 32) = false := beq_eq_false_iff_ne.2 h32
                  have HJ2 : Hid (blkF (zs.drop (k + p)) = j) := by show _ = _; rw [HJ.out, hbk, if_neg h32]; omega
                  clear hbk hc
                  go_wp2_with fail
                  exact ⟨⟨k + p + j, k + p, by omega, by omega, by go_num, by go_num, f, s, a, by omega, by rw [HGN.out, HJ2.out], HX.out⟩, by simp only [intOf]; omega⟩
              · have HJ2 : Hid (blkF (zs.drop (k + p)) = j) := by show _ = _; rw [HJ.out, blk_end (by rw [HL.out]; omega)]; omega
                have d2 : decide ((k : Int) + (p : Int) + (j : Int) < (n : Int)) = false := decide_eq_false (by omega)
                go_wp2_with fail
                exact ⟨⟨k + p + j, k + p, by omega, by omega, by go_num, by go_num, f, s, a, by omega, by rw [HGN.out, HJ2.out], HX.out⟩, by simp only [intOf]; omega⟩
      · have HQ := Lib.hid hq
        obtain ⟨hs1, he, hu, hix⟩ := split_byt s 38 u (by rw [hs, hw])
        have hwp : 1 ≤ s.size := hs1
        obtain ⟨v, hv⟩ : ∃ v, s.extract 1 s.size = v := ⟨_, rfl⟩
        rw [hv] at hu
        have hvz : v.size ≤ maxLen := by rw [← hv, ByteArray.size_extract]; unfold maxLen; omega
        have hwv := hwf (byt t) (byt a)
        rw [← hs, ← hu] at hwv
        have hbs : wrdF (zs.drop k) = byt s := hs.symm
        have NC := Lib.hid (refName_any v W hvz)
        have hbad : (withF (byt t) (byt a) (byt s)).2.2 = false → Hid (takeP zs = ([], [], 0, false)) := fun h => by
          show _ = _
          rw [HGO.out, goP_bad _ _ _ _ _ _ HQ.out (by rw [hbs]; exact h)]
        clear hw hwf hq hu hvz
        cases hte : a.toList.isEmpty with
        | false =>
          have HRES := hbad (by rw [hwv, ← empty_byt, hte]; rfl)
          clear hbad hwv hs hbs NC
          go_wp2_with fail
          obtain ⟨Y, hY⟩ : ∃ Y, ((W.setCell ⟨w.heap.size, 0, none⟩ (.string ⟨#[]⟩)).setCell ⟨w.heap.size, 1, none⟩ (.string ⟨#[]⟩)) = Y := ⟨_, rfl⟩
          have hy : Own2 Y w.heap.size 113 ⟨#[]⟩ ⟨#[]⟩ := by rw [← hY]; exact HRES0.out.set
          have hyb : Below w.heap.size w Y := by rw [← hY]; exact set2_below HBEL.out (Nat.le_refl _)
          rw [hY]
          clear hY c0 c1 z0 z1 y0 y1 x0 x1
          have c0 := hy.c0
          have c1 := hy.c1
          exact bodyPost_ret (v := .tuple #[.agg #[.string ⟨#[]⟩, .string ⟨#[]⟩], .int .i64 0, .bool false]) (by simp [results, Try.results85, go_sem, c0, c1]) rfl ⟨⟨#[]⟩, ⟨#[]⟩, by rw [HRES.out]; rfl, by rw [HRES.out]; rfl, by rw [HRES.out]; rfl, hyb⟩
        | true =>
          cases hvl : nameF (byt v) with
          | false =>
            have HRES := hbad (by rw [hwv, hvl, Bool.and_false]; rfl)
            rw [hvl] at NC
            clear hbad hwv hs hbs hvl
            go_wp2_with (go_at_call 100; refine NC.out.mono ?_; rintro e w' ⟨rfl, rfl⟩)
            obtain ⟨Y, hY⟩ : ∃ Y, ((W.setCell ⟨w.heap.size, 0, none⟩ (.string ⟨#[]⟩)).setCell ⟨w.heap.size, 1, none⟩ (.string ⟨#[]⟩)) = Y := ⟨_, rfl⟩
            have hy : Own2 Y w.heap.size 113 ⟨#[]⟩ ⟨#[]⟩ := by rw [← hY]; exact HRES0.out.set
            have hyb : Below w.heap.size w Y := by rw [← hY]; exact set2_below HBEL.out (Nat.le_refl _)
            rw [hY]
            clear hY c0 c1 z0 z1 y0 y1 x0 x1
            have c0 := hy.c0
            have c1 := hy.c1
            exact bodyPost_ret (v := .tuple #[.agg #[.string ⟨#[]⟩, .string ⟨#[]⟩], .int .i64 0, .bool false]) (by simp [results, Try.results85, go_sem, c0, c1]) rfl ⟨⟨#[]⟩, ⟨#[]⟩, by rw [HRES.out]; rfl, by rw [HRES.out]; rfl, by rw [HRES.out]; rfl, hyb⟩
          | true =>
            rw [hvl] at NC
            rw [hvl, ← empty_byt, hte] at hwv
            rw [← hbs] at hwv
            have hwv : withF (byt t) (byt a) (wrdF (zs.drop k)) = (byt t, byt v, true) := by rw [hwv]; rfl
            clear hbad hs hbs hvl
            have hgn := goP_next f _ k m (byt t) (byt a) HQ.out (by rw [hwv])
            rw [hwv, ← HGO.out, ← HSZ.out] at hgn
            simp only [List.drop_drop] at hgn
            obtain ⟨p, hp⟩ : ∃ p, s.size = p := ⟨_, rfl⟩
            rw [hp] at hwl hwp hgn
            try rw [hp] at hv
            have HGN := Lib.hid hgn
            clear hgn hwv
            go_wp2_with (go_at_call 100; refine NC.out.mono ?_; rintro e w' ⟨rfl, rfl⟩)
            obtain ⟨X, hX⟩ : ∃ X, W.setCell ⟨g, 1, none⟩ (.string v) = X := ⟨_, rfl⟩
            have HX : Hid (Own2 X g 113 t v ∧ Own2 X w.heap.size 113 ⟨#[]⟩ ⟨#[]⟩ ∧ Below w.heap.size w X) := by
              refine ⟨by rw [← hX]; exact HOWN.out.set1, ?_, by rw [← hX]; exact HBEL.out.setCell (p := ⟨g, 1, none⟩) (by show _ ≤ g; omega) _⟩
              rw [← hX]
              have := HRES0.out
              unfold Own2 at this ⊢
              simp [World.setCell, Array.getElem?_modify, this, show ¬ g = w.heap.size by omega]
            rw [hX]
            clear hX c0 c1 z0 z1 y0 y1 x0 x1
            go_loop [7] (fun i => ∃ j : Nat, k + p + j ≤ n ∧ i = .int .i64 ((k : Int) + (p : Int) + (j : Int)) ∧ Hid (blkF (zs.drop (k + p)) = j + blkF (zs.drop (k + p + j)))) (fun i => n - (intOf i).toNat)
            case atStart => exact ⟨0, by omega, by simp, by show _ = _; simp⟩
            case round =>
              obtain ⟨j, hj, rfl, HJ⟩ := hrel
              by_cases hlt2 : k + p + j < n
              · obtain ⟨b, off, e', hc⟩ := (HR.out.below HX.out.2.2).addr (by rw [HL.out]; omega)
                subst e'
                have ck := hc (k + p + j) (by rw [HL.out]; exact hlt2)
                have hbk := blk_at (l := zs) (k := k + p + j) (by rw [HL.out]; exact hlt2)
                have d2 : (k : Int) + (p : Int) + (j : Int) < (n : Int) := by omega
                have htn : ((k : Int) + (p : Int) + (j : Int)).toNat = k + p + j := by omega
                generalize zs.getD (k + p + j) 0 = z at *
                by_cases h32 : z = 32
                · subst h32
                  have HJ2 : Hid (blkF (zs.drop (k + p)) = j + 1 + blkF (zs.drop (k + p + (j + 1)))) := by show _ = _; rw [HJ.out, hbk, if_pos rfl, show k + p + (j + 1) = k + p + j + 1 by omega]; omega
                  clear hbk hc
                  go_wp2_with fail
                  go_round
                  case rel => exact ⟨j + 1, by omega, by go_num, HJ2⟩
                  case measure => simp [intOf]; omega
                · have ds : (z == 32) = false := beq_eq_false_iff_ne.2 h32
                  have HJ2 : Hid (blkF (zs.drop (k + p)) = j) := by show _ = _; rw [HJ.out, hbk, if_neg h32]; omega
                  clear hbk hc
                  go_wp2_with fail
                  exact ⟨⟨k + p + j, k + p, by omega, by omega, by go_num, by go_num, f, t, v, by omega, by rw [HGN.out, HJ2.out], HX.out⟩, by simp only [intOf]; omega⟩
              · have HJ2 : Hid (blkF (zs.drop (k + p)) = j) := by show _ = _; rw [HJ.out, blk_end (by rw [HL.out]; omega)]; omega
                have d2 : decide ((k : Int) + (p : Int) + (j : Int) < (n : Int)) = false := decide_eq_false (by omega)
                go_wp2_with fail
                exact ⟨⟨k + p + j, k + p, by omega, by omega, by go_num, by go_num, f, t, v, by omega, by rw [HGN.out, HJ2.out], HX.out⟩, by simp only [intOf]; omega⟩
    · have d1 : decide ((k : Int) < (n : Int)) = false := decide_eq_false (by omega)
      have HRES : Hid (takeP zs = (byt t, byt a, m, true)) := by show _ = _; rw [HGO.out, goP_stop _ _ _ _ _ _ (by rw [List.drop_of_length_le (by rw [HL.out]; omega)]; rfl)]
      go_wp2_with fail
      obtain ⟨Y, hY⟩ : ∃ Y, ((W.setCell ⟨w.heap.size, 0, none⟩ (.string t)).setCell ⟨w.heap.size, 1, none⟩ (.string a)) = Y := ⟨_, rfl⟩
      have hy : Own2 Y w.heap.size 113 t a := by rw [← hY]; exact HRES0.out.set
      have hyb : Below w.heap.size w Y := by rw [← hY]; exact set2_below HBEL.out (Nat.le_refl _)
      rw [hY]
      clear hY c0 c1 z0 z1 y0 y1 x0 x1
      have c0 : Y.cell? ⟨w.heap.size, 0, none⟩ = some (.string t) := hy.c0
      have c1 : Y.cell? ⟨w.heap.size, 1, none⟩ = some (.string a) := hy.c1
      exact bodyPost_ret (v := .tuple #[.agg #[.string t, .string a], .int .i64 (m : Int), .bool true]) (by simp [results, Try.results85, go_sem, c0, c1]) rfl ⟨t, a, by rw [HRES.out], by rw [HRES.out], by rw [HRES.out], hyb⟩
end Go.Proofs.Ytcddlconcngjlaa.Pr
