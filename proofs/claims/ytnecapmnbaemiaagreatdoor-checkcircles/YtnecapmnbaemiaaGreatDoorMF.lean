/- Chapter 5 (scalars in single quotes) as Lean functions on lists of numbers, and what they come to. No program. · The contracts of package single: quoted, length, inLine, Take, Put; strings.ReplaceAll at quotes. · The contracts of single.length, inLine, Take, Put; the document's example. · The document's own answers of chapter 5: TakeSingle, PutSingle. -/
import Derived.Test.YtnecapmnbaemiaaGreatDoorMA
import Derived.Lib.ReplaceLaws
import Derived.Test.YtnecapmnbaemiaaGreatDoorShelf
import Derived.Test.YtnecapmnbaemiaaGreatDoorDoor
set_option linter.unusedSimpArgs false
set_option linter.unusedVariables false
namespace Go.Proofs.YtnecapmnbaemiaaGreatDoor.Sg
open Go.RowKit
set_option linter.unusedVariables false
set_option maxRecDepth 100000
theorem replaceAll_is (s old new : List UInt8) (h : old ≠ new) : Lib.replaceAll s old new = Lib.replaceK old new (Lib.count s old) s := by
  unfold Lib.replaceAll Lib.replace Lib.replaceNum
  rw [if_neg (by simpa using h), if_pos (by omega)]
theorem replaceAll_nil (old new : List UInt8) (h : old ≠ new) (h0 : old ≠ []) : Lib.replaceAll [] old new = [] := by
  rw [replaceAll_is _ _ _ h]
  have : Lib.index [] old = -1 := by
    unfold Lib.index; rw [if_neg (by simpa using h0)]
  rw [Lib.count_miss this, Lib.replaceK]
theorem replaceAll_hit (b : UInt8) (l old new : List UInt8) (h : old ≠ new) (h0 : old ≠ []) (hp : old.isPrefixOf (b :: l) = true) : Lib.replaceAll (b :: l) old new = new ++ Lib.replaceAll ((b :: l).drop old.length) old new := by
  rw [replaceAll_is _ _ _ h, replaceAll_is _ _ _ h]
  have hi : Lib.index (b :: l) old = ((0 : Nat) : Int) := by unfold Lib.index; rw [if_pos hp]; rfl
  rw [Lib.count_hit h0 hi, Nat.add_comm 1, Lib.replaceK_hit _ _ _ _ 0 hi]
  simp
theorem replaceAll_step (b : UInt8) (l old new : List UInt8) (h : old ≠ new) (h0 : old ≠ []) (hp : old.isPrefixOf (b :: l) = false) : Lib.replaceAll (b :: l) old new = b :: Lib.replaceAll l old new := by
  rw [replaceAll_is _ _ _ h, replaceAll_is _ _ _ h]
  have hg := Lib.index_ge l old
  by_cases hm : Lib.index l old = -1
  · have hi : Lib.index (b :: l) old = -1 := by unfold Lib.index; rw [if_neg (by simp [hp]), if_pos (by simp [hm])]
    rw [Lib.count_miss hm, Lib.count_miss hi, Lib.replaceK, Lib.replaceK]
  · obtain ⟨j, hj⟩ : ∃ j : Nat, Lib.index l old = j := ⟨(Lib.index l old).toNat, by omega⟩
    have hi : Lib.index (b :: l) old = ((j + 1 : Nat) : Int) := by unfold Lib.index; rw [if_neg (by simp [hp]), if_neg (by simp [hm]), hj]; omega
    rw [Lib.count_hit h0 hi, Lib.count_hit h0 hj, Nat.add_comm 1, Nat.add_comm 1, Lib.replaceK_hit _ _ _ _ _ hi, Lib.replaceK_hit _ _ _ _ _ hj]
    have e : j + 1 + old.length = (j + old.length) + 1 := by omega
    rw [e, List.drop_succ_cons]
    simp
def num (l : List UInt8) : List Int := l.map fun c => (c.toNat : Int)
theorem num_byt (s : ByteArray) : num s.data.toList = byt s := rfl
theorem num_39 (c : UInt8) : ((c.toNat : Int) = 39) ↔ c = 39 := by
  constructor
  · intro h
    have : c.toNat = 39 := by omega
    exact UInt8.toNat_inj.1 this
  · intro h; subst h; rfl
/-- Each quote doubled. -/
def dbl : List Int → List Int
  | [] => []
  | c :: t => if c = 39 then 39 :: 39 :: dbl t else c :: dbl t
/-- Each doubled quote as one. -/
def sgl : List Int → List Int
  | [] => []
  | [c] => [c]
  | c :: d :: t => if c = 39 ∧ d = 39 then 39 :: sgl t else c :: sgl (d :: t)
theorem sgl_ne (c : Int) (t : List Int) (h : c ≠ 39) : sgl (c :: t) = c :: sgl t := by
  cases t with
  | nil => simp [sgl]
  | cons d t => rw [sgl, if_neg (by omega)]
theorem sgl_two (t : List Int) : sgl (39 :: 39 :: t) = 39 :: sgl t := by rw [sgl, if_pos ⟨rfl, rfl⟩]
theorem sgl_one (d : Int) (t : List Int) (h : d ≠ 39) : sgl (39 :: d :: t) = 39 :: sgl (d :: t) := by rw [sgl, if_neg (by omega)]
theorem num_sgl : ∀ (n : Nat) (l : List UInt8), l.length ≤ n → num (Lib.replaceAll l [39, 39] [39]) = sgl (num l) := by
  intro n
  induction n with
  | zero =>
    intro l hl
    have : l = [] := List.eq_nil_of_length_eq_zero (by omega)
    subst this
    rw [replaceAll_nil _ _ (by decide) (by decide)]; rfl
  | succ n ih =>
    intro l hl
    match l, hl with
    | [], _ => rw [replaceAll_nil _ _ (by decide) (by decide)]; rfl
    | [b], _ =>
      rw [replaceAll_step _ _ _ _ (by decide) (by decide) (by simp [List.isPrefixOf]), replaceAll_nil _ _ (by decide) (by decide)]
      simp [num, sgl]
    | b :: d :: l, hl =>
      simp at hl
      by_cases hb : b = 39 ∧ d = 39
      · obtain ⟨rfl, rfl⟩ := hb
        rw [replaceAll_hit _ _ _ _ (by decide) (by decide) (by simp [List.isPrefixOf])]
        show num ([39] ++ Lib.replaceAll l [39, 39] [39]) = sgl (39 :: 39 :: num l)
        rw [sgl_two, ← ih l (by omega)]
        simp [num]
      · have hp : ([39, 39] : List UInt8).isPrefixOf (b :: d :: l) = false := by
          simp [List.isPrefixOf]
          intro h1 h2
          exact hb ⟨h1.symm, h2.symm⟩
        rw [replaceAll_step _ _ _ _ (by decide) (by decide) hp]
        have h2 := ih (d :: l) (by simp; omega)
        show (b.toNat : Int) :: num (Lib.replaceAll (d :: l) [39, 39] [39]) = sgl ((b.toNat : Int) :: (d.toNat : Int) :: num l)
        rw [h2, sgl, if_neg (by rw [num_39, num_39]; exact hb)]
        rfl
/-- Behind the first quote: the value, and how many bytes it takes with the last one. -/
def takeF : List Int → Option (List Int × Nat)
  | [] => none
  | [c] => if c = 39 then some ([], 1) else none
  | c :: d :: t => if c = 10 ∨ c = 13 then none else if c = 39 then (if d = 39 then (takeF t).map (fun x => (39 :: x.1, x.2 + 2)) else some ([], 1)) else (takeF (d :: t)).map (fun x => (c :: x.1, x.2 + 1))
theorem takeF_brk (c : Int) (t : List Int) (h : c = 10 ∨ c = 13) : takeF (c :: t) = none := by
  cases t with
  | nil => rw [takeF, if_neg (by omega)]
  | cons d t => rw [takeF, if_pos h]
theorem takeF_ne (c : Int) (t : List Int) (h : c ≠ 10) (h2 : c ≠ 13) (h3 : c ≠ 39) : takeF (c :: t) = (takeF t).map (fun x => (c :: x.1, x.2 + 1)) := by
  cases t with
  | nil => simp [takeF, h3]
  | cons d t => rw [takeF, if_neg (by omega), if_neg h3]
theorem takeF_two (t : List Int) : takeF (39 :: 39 :: t) = (takeF t).map (fun x => (39 :: x.1, x.2 + 2)) := by rw [takeF, if_neg (by omega), if_pos rfl, if_pos rfl]
theorem takeF_end (t : List Int) (h : t.head? ≠ some 39) : takeF (39 :: t) = some ([], 1) := by
  cases t with
  | nil => rw [takeF, if_pos rfl]
  | cons d t => rw [takeF, if_neg (by omega), if_pos rfl, if_neg (by simpa using h)]
/-- Four ways of a list that is not empty. -/
theorem take_ways (c : Int) (t : List Int) : (c = 10 ∨ c = 13) ∨ (c ≠ 10 ∧ c ≠ 13 ∧ c ≠ 39) ∨ (c = 39 ∧ ∃ t', t = 39 :: t') ∨ (c = 39 ∧ t.head? ≠ some 39) := by
  by_cases h1 : c = 10 ∨ c = 13
  · exact .inl h1
  · by_cases h2 : c = 39
    · right; right
      cases t with
      | nil => exact .inr ⟨h2, by simp⟩
      | cons d t =>
        by_cases hd : d = 39
        · subst hd; exact .inl ⟨h2, t, rfl⟩
        · exact .inr ⟨h2, by simpa using hd⟩
    · exact .inr (.inl ⟨by omega, by omega, h2⟩)
theorem takeF_sgl : ∀ (n : Nat) (t v : List Int) (m : Nat), t.length ≤ n → takeF t = some (v, m) → 1 ≤ m ∧ m ≤ t.length ∧ v = sgl (t.take (m - 1)) := by
  intro n
  induction n with
  | zero =>
    intro t v m hl h
    have : t = [] := List.eq_nil_of_length_eq_zero (by omega)
    subst this
    simp [takeF] at h
  | succ n ih =>
    intro t v m hl h
    match t, hl, h with
    | c :: t, hl, h =>
      simp at hl
      rcases take_ways c t with h1 | ⟨h1, h2, h3⟩ | ⟨rfl, t', rfl⟩ | ⟨rfl, h1⟩
      · rw [takeF_brk c t h1] at h; cases h
      · rw [takeF_ne c t h1 h2 h3] at h
        cases ht : takeF t with
        | none => rw [ht] at h; cases h
        | some x =>
          rw [ht] at h
          simp at h
          obtain ⟨rfl, rfl⟩ := h
          obtain ⟨g1, g2, g3⟩ := ih t x.1 x.2 (by omega) ht
          refine ⟨by omega, by simp; omega, ?_⟩
          obtain ⟨k, hk⟩ : ∃ k, x.2 = k + 1 := ⟨x.2 - 1, by omega⟩
          rw [hk] at g3 ⊢
          simp only [Nat.add_sub_cancel] at g3 ⊢
          rw [List.take_succ_cons, sgl_ne _ _ h3, ← g3]
      · rw [takeF_two] at h
        simp at hl
        cases ht : takeF t' with
        | none => rw [ht] at h; cases h
        | some x =>
          rw [ht] at h
          simp at h
          obtain ⟨rfl, rfl⟩ := h
          obtain ⟨g1, g2, g3⟩ := ih t' x.1 x.2 (by omega) ht
          refine ⟨by omega, by simp; omega, ?_⟩
          obtain ⟨k, hk⟩ : ∃ k, x.2 = k + 1 := ⟨x.2 - 1, by omega⟩
          rw [hk] at g3 ⊢
          simp only [Nat.add_sub_cancel] at g3 ⊢
          rw [show k + 1 + 2 - 1 = k + 1 + 1 by omega, List.take_succ_cons, List.take_succ_cons, sgl_two, ← g3]
      · rw [takeF_end t h1] at h
        simp at h
        obtain ⟨rfl, rfl⟩ := h
        exact ⟨by omega, by simp, by simp [sgl]⟩
/-- From place k on, what was read up to there being acc. -/
def tkAt (zs acc : List Int) (k : Nat) : Option (List Int × Nat) := (takeF (zs.drop k)).map fun x => (acc ++ x.1, x.2 + k)
theorem tkAt_past (zs acc : List Int) (k : Nat) (h : zs.length ≤ k) : tkAt zs acc k = none := by
  unfold tkAt; rw [List.drop_of_length_le h]; rfl
theorem drop_at (zs : List Int) (k : Nat) (h : k < zs.length) : zs.drop k = zs.getD k 0 :: zs.drop (k + 1) := by
  rw [List.drop_eq_getElem_cons h]; simp [List.getD, h]
theorem tkAt_brk (zs acc : List Int) (k : Nat) (h : k < zs.length) (hc : zs.getD k 0 = 10 ∨ zs.getD k 0 = 13) : tkAt zs acc k = none := by
  unfold tkAt; rw [drop_at zs k h, takeF_brk _ _ hc]; rfl
theorem tkAt_ne (zs acc : List Int) (k : Nat) (h : k < zs.length) (h1 : zs.getD k 0 ≠ 10) (h2 : zs.getD k 0 ≠ 13) (h3 : zs.getD k 0 ≠ 39) : tkAt zs acc k = tkAt zs (acc ++ [zs.getD k 0]) (k + 1) := by
  unfold tkAt; rw [drop_at zs k h, takeF_ne _ _ h1 h2 h3, Option.map_map]
  congr 1
  funext x
  simp
  omega
theorem tkAt_two (zs acc : List Int) (k : Nat) (h : k + 1 < zs.length) (h1 : zs.getD k 0 = 39) (h2 : zs.getD (k + 1) 0 = 39) : tkAt zs acc k = tkAt zs (acc ++ [39]) (k + 2) := by
  unfold tkAt; rw [drop_at zs k (by omega), drop_at zs (k + 1) h, h1, h2, takeF_two, Option.map_map]
  congr 1
  funext x
  simp
  omega
theorem tkAt_end (zs acc : List Int) (k : Nat) (h : k < zs.length) (h1 : zs.getD k 0 = 39) (h2 : ¬ (k + 1 < zs.length ∧ zs.getD (k + 1) 0 = 39)) : tkAt zs acc k = some (acc, k + 1) := by
  unfold tkAt; rw [drop_at zs k h, h1, takeF_end]
  · simp; omega
  · by_cases hl : k + 1 < zs.length
    · rw [drop_at zs (k + 1) hl]
      simp
      intro e
      exact h2 ⟨hl, by simpa [List.getD] using e⟩
    · rw [List.drop_of_length_le (by omega)]; simp
def takeS (zs : List Int) : Option (List Int × Nat) := if zs.getD 0 0 = 39 then tkAt zs [] 1 else none
theorem takeS_sgl (zs v : List Int) (m : Nat) (h : takeS zs = some (v, m)) : 2 ≤ m ∧ m ≤ zs.length ∧ v = sgl ((zs.drop 1).take (m - 1 - 1)) := by
  unfold takeS at h
  split at h
  · unfold tkAt at h
    cases ht : takeF (zs.drop 1) with
    | none => rw [ht] at h; cases h
    | some x =>
      rw [ht] at h
      simp at h
      obtain ⟨rfl, rfl⟩ := h
      obtain ⟨g1, g2, g3⟩ := takeF_sgl _ _ x.1 x.2 (Nat.le_refl _) ht
      rw [List.length_drop] at g2
      refine ⟨by omega, by omega, ?_⟩
      rw [show x.2 + 1 - 1 - 1 = x.2 - 1 by omega]
      exact g3
  · cases h
/-- The three answers of Take. -/
def tkV (o : Option (List Int × Nat)) : List Int := match o with | some x => x.1 | none => []
def tkN (o : Option (List Int × Nat)) : Nat := match o with | some x => x.2 | none => 0
def putF (s : List Int) : List Int := 39 :: (dbl s ++ [39])
theorem sgl_byte : ∀ (n : Nat) (l : List Int), l.length ≤ n → Byte l → Byte (sgl l) := by
  intro n
  induction n with
  | zero =>
    intro l hl _
    have : l = [] := List.eq_nil_of_length_eq_zero (by omega)
    subst this
    intro z hz; simp [sgl] at hz
  | succ n ih =>
    intro l hl hb
    match l, hl, hb with
    | [], _, _ => intro z hz; simp [sgl] at hz
    | [c], _, hb => simpa [sgl] using hb
    | c :: d :: t, hl, hb =>
      simp at hl
      rw [sgl]
      split
      · intro z hz
        rcases List.mem_cons.1 hz with rfl | hz
        · omega
        · exact ih t (by omega) (fun y hy => hb y (by simp [hy])) z hz
      · intro z hz
        rcases List.mem_cons.1 hz with rfl | hz
        · exact hb _ (by simp)
        · exact ih (d :: t) (by simp; omega) (fun y hy => hb y (by simp at hy ⊢; exact .inr hy)) z hz
theorem num_mk (l : List UInt8) : byt ⟨l.toArray⟩ = num l := by simp [byt, num]
theorem data_39 : (⟨#[39]⟩ : ByteArray).data.toList = [39] := rfl
theorem data_3939 : (⟨#[39, 39]⟩ : ByteArray).data.toList = [39, 39] := rfl
/-- Each doubled quote as one. -/
theorem replace_sgl (s : ByteArray) (w : World) (hM : MaxL w) (hs : s.size ≤ 1000000000) (t : ByteArray) (ht : byt t = sgl (byt s)) :
    Calls Tryz.prog 81 #[.string s, .string ⟨#[39, 39]⟩, .string ⟨#[39]⟩] w fun e w' => e = .returned (.string t) ∧ Below w.heap.size w w' := by
  obtain ⟨x, hx⟩ := hM
  have hc := Lib.countB_mul_le ⟨#[39, 39]⟩ (by decide) s.size s (Nat.le_refl _)
  refine (Tryz.strings_ReplaceAll s ⟨#[39, 39]⟩ ⟨#[39]⟩ x w (by omega) hx (by decide) ?_).mono ?_
  · have e1 : (⟨#[39]⟩ : ByteArray).size = 1 := rfl
    have e2 : (⟨#[39, 39]⟩ : ByteArray).size = 2 := rfl
    rw [e2] at hc; rw [e1]; omega
  · rintro e w' ⟨rfl, hb⟩
    refine ⟨ret_str (byt_inj ?_), hb⟩
    rw [ht, num_mk, data_39, data_3939, num_sgl _ _ (Nat.le_refl _), num_byt]
set_option maxHeartbeats 1000000 in
theorem quoted_any (A : Option Addr) (n c k : Nat) (ki : Int) (hki : ki = (k : Int)) (zs : List Int) (w : World) (hl : zs.length = n) (hnc : n ≤ c) (hm : c ≤ 9223372036854775807) (hr : RdB w A zs) (v : Bool) (hv : (decide (k < n) && zs.getD k 0 == 39) = v) :
    Calls Tryz.prog 97 #[.slice A n c, .int .i64 ki] w fun e w' => e = .returned (.bool v) ∧ Below w.heap.size w w' := by
  subst hki
  by_cases h : k < n
  · obtain ⟨b, off, rfl, hc⟩ := hr.addr (by omega)
    have c0 := hc k (by omega)
    rw [decide_eq_true h] at hv
    simp only [Bool.true_and] at hv
    generalize zs.getD k 0 = z at *
    have HV := Lib.hid hv
    have d : (k : Int) < (n : Int) := by omega
    have B0 : Hid (Below w.heap.size w w) := Below.refl _ _
    clear hc hv hr hl
    go_enter Tryz.func97, Tryz.ntmps97
    go_wp2_with fail
    go_quiet (fail)
    go_wp2
    go_ret
    exact ⟨ret_bool HV.out, below_draws B0.out _⟩
  · have d : decide ((k : Int) < (n : Int)) = false := decide_eq_false (by omega)
    rw [decide_eq_false h] at hv
    simp only [Bool.false_and] at hv
    subst hv
    have B0 : Hid (Below w.heap.size w w) := Below.refl _ _
    clear hr hl
    go_enter Tryz.func97, Tryz.ntmps97
    go_wp2_with fail
    go_quiet (fail)
    go_wp2
    go_ret
    exact ⟨rfl, below_draws B0.out _⟩
set_option maxHeartbeats 2000000 in
theorem slength_any (A : Option Addr) (n c : Nat) (zs : List Int) (w : World) (hl : zs.length = n) (hnc : n ≤ c) (hm : c ≤ 9223372036854775807) (hn : n ≤ 1000000000) (hr : RdB w A zs) (v : Nat) (hv : tkN (takeS zs) = v) :
    Calls Tryz.prog 80 #[.slice A n c] w fun e w' => e = .returned (.int .i64 (v : Int)) ∧ Below w.heap.size w w' := by
  have HL := Lib.hid hl
  have HR := Lib.hid hr
  have HV := Lib.hid hv
  by_cases h0 : zs.getD 0 0 = 39
  · have hn0 : 0 < n := by
      rcases Nat.eq_zero_or_pos n with h | h
      · have : zs = [] := List.eq_nil_of_length_eq_zero (by omega)
        subst this; simp at h0
      · exact h
    have Q0 := Lib.hid (quoted_any A n c 0 0 rfl zs w hl hnc hm hr true (by rw [decide_eq_true hn0, h0]; rfl))
    have HT : Hid (tkN (tkAt zs [] 1) = v) := by
      show tkN (tkAt zs [] 1) = v
      rw [← hv, takeS, if_pos h0]
    clear hl hr hv h0 HV
    go_enter Tryz.func80, Tryz.ntmps80
    go_wp2_with (go_at_call 97; refine Q0.out.mono ?_; rintro e w1 ⟨rfl, hb1⟩; have HB1 := Lib.hid hb1; clear hb1 Q0)
    go_loopw [2, 3] (fun r i W => ∃ k : Nat, 1 ≤ k ∧ k ≤ n + 1 ∧ r = .int .i64 0 ∧ i = .int .i64 (k : Int) ∧ Hid ((∃ acc, tkN (tkAt zs acc k) = v) ∧ Below w.heap.size w W)) (fun _ i _ => n + 1 - (intOf i).toNat)
    case atStart => exact ⟨1, by omega, by omega, rfl, rfl, ⟨[], HT.out⟩, HB1.out⟩
    case round =>
      obtain ⟨k, hk1, hk, rfl, rfl, HK⟩ := hrel
      obtain ⟨W, hW⟩ : ∃ x, x = wr := ⟨_, rfl⟩
      subst hW
      obtain ⟨⟨acc, hacc⟩, hbel⟩ := HK.out
      have HB := Lib.hid hbel
      have HA := Lib.hid hacc
      clear hacc hbel HK
      by_cases hlt : k < n
      · have hrw := HR.out.below HB.out
        obtain ⟨b, off, rfl, hc⟩ := hrw.addr (by rw [HL.out]; omega)
        have c0 := hc k (by rw [HL.out]; omega)
        have HRW := Lib.hid hrw
        have d : (k : Int) < (n : Int) := by omega
        clear hrw hc
        have hkz : k < zs.length := by rw [HL.out]; exact hlt
        by_cases hz10 : zs.getD k 0 = 10
        · have hv : v = 0 := by rw [← HA.out, tkAt_brk zs acc k hkz (.inl hz10)]; rfl
          subst hv
          rw [hz10] at c0
          clear hz10 hkz
          go_wp2_with fail
          go_ret
          exact ⟨rfl, HB.out⟩
        by_cases hz13 : zs.getD k 0 = 13
        · have hv : v = 0 := by rw [← HA.out, tkAt_brk zs acc k hkz (.inr hz13)]; rfl
          subst hv
          rw [hz13] at c0
          clear hz10 hz13 hkz
          go_wp2_with fail
          go_ret
          exact ⟨rfl, HB.out⟩
        have e10 : (zs.getD k 0 == 10) = false := beq_eq_false_iff_ne.2 hz10
        have e13 : (zs.getD k 0 == 13) = false := beq_eq_false_iff_ne.2 hz13
        by_cases hz : zs.getD k 0 = 39
        · by_cases hz2 : k + 1 < n ∧ zs.getD (k + 1) 0 = 39
          · have HA2 : Hid (tkN (tkAt zs (acc ++ [39]) (k + 2)) = v) := by
              show tkN _ = v
              rw [← HA.out, tkAt_two zs acc k (by rw [HL.out]; omega) hz hz2.2]
            have Q1 : Hid (∀ V, Below w.heap.size w V → Calls Tryz.prog 97 #[.slice (some ⟨b, off, none⟩) n c, .int .i64 (k : Int)] V fun e w' => e = .returned (.bool true) ∧ Below V.heap.size V w') :=
              fun V hV => quoted_any _ n c k _ rfl zs V HL.out hnc hm (HR.out.below hV) true (by rw [decide_eq_true hlt, hz]; rfl)
            have Q2 : Hid (∀ V, Below w.heap.size w V → Calls Tryz.prog 97 #[.slice (some ⟨b, off, none⟩) n c, .int .i64 ((k : Int) + 1)] V fun e w' => e = .returned (.bool true) ∧ Below V.heap.size V w') :=
              fun V hV => quoted_any _ n c (k + 1) _ (by omega) zs V HL.out hnc hm (HR.out.below hV) true (by rw [decide_eq_true hz2.1, hz2.2]; rfl)
            have hk2 := hz2.1
            rw [hz] at c0
            clear e10 e13 hz hz2 hz10 hz13 hkz
            go_wp2_with fail
            refine (Q1.out W HB.out).mono ?_
            rintro e w2 ⟨rfl, hb2⟩
            have HB2 := Lib.hid (below_step HB.out hb2)
            clear hb2
            go_wp2_with fail
            refine (Q2.out w2 HB2.out).mono ?_
            rintro e w3 ⟨rfl, hb3⟩
            have HB3 := Lib.hid (below_step HB2.out hb3)
            clear hb3
            go_wp2_with fail
            refine (Q1.out w3 HB3.out).mono ?_
            rintro e w4 ⟨rfl, hb4⟩
            have HB4 := Lib.hid (below_step HB3.out hb4)
            clear hb4
            go_wp2_with fail
            go_roundw
            case rel => exact ⟨k + 2, by omega, by omega, rfl, by go_num, ⟨_, HA2.out⟩, HB4.out⟩
            case measure => simp [intOf]; omega
          · have hv : v = k + 1 := by
              rw [← HA.out, tkAt_end zs acc k hkz hz (by rw [HL.out]; exact hz2)]; rfl
            have Q1 : Hid (∀ V, Below w.heap.size w V → Calls Tryz.prog 97 #[.slice (some ⟨b, off, none⟩) n c, .int .i64 (k : Int)] V fun e w' => e = .returned (.bool true) ∧ Below V.heap.size V w') :=
              fun V hV => quoted_any _ n c k _ rfl zs V HL.out hnc hm (HR.out.below hV) true (by rw [decide_eq_true hlt, hz]; rfl)
            have Q2 : Hid (∀ V, Below w.heap.size w V → Calls Tryz.prog 97 #[.slice (some ⟨b, off, none⟩) n c, .int .i64 ((k : Int) + 1)] V fun e w' => e = .returned (.bool false) ∧ Below V.heap.size V w') :=
              fun V hV => quoted_any _ n c (k + 1) _ (by omega) zs V HL.out hnc hm (HR.out.below hV) false (by
                rw [Bool.eq_false_iff]
                intro h
                simp at h
                exact hz2 ⟨h.1, by simpa [List.getD] using h.2⟩)
            have HVV := Lib.hid hv
            rw [hz] at c0
            clear e10 e13 hz hz2 hz10 hz13 hkz hv
            go_wp2_with fail
            refine (Q1.out W HB.out).mono ?_
            rintro e w2 ⟨rfl, hb2⟩
            have HB2 := Lib.hid (below_step HB.out hb2)
            clear hb2
            go_wp2_with fail
            refine (Q2.out w2 HB2.out).mono ?_
            rintro e w3 ⟨rfl, hb3⟩
            have HB3 := Lib.hid (below_step HB2.out hb3)
            clear hb3
            go_wp2_with fail
            go_ret
            exact ⟨ret_int (by rw [HVV.out]; omega), HB3.out⟩
        · have HA2 : Hid (tkN (tkAt zs (acc ++ [zs.getD k 0]) (k + 1)) = v) := by
            show tkN _ = v
            rw [← HA.out, tkAt_ne zs acc k hkz hz10 hz13 hz]
          have Q1 : Hid (∀ V, Below w.heap.size w V → Calls Tryz.prog 97 #[.slice (some ⟨b, off, none⟩) n c, .int .i64 (k : Int)] V fun e w' => e = .returned (.bool false) ∧ Below V.heap.size V w') :=
            fun V hV => quoted_any _ n c k _ rfl zs V HL.out hnc hm (HR.out.below hV) false (by rw [beq_eq_false_iff_ne.2 hz]; simp)
          clear hz hz10 hz13 hkz
          generalize zs.getD k 0 = z at *
          go_wp2_with fail
          refine (Q1.out W HB.out).mono ?_
          rintro e w2 ⟨rfl, hb2⟩
          have HB2 := Lib.hid (below_step HB.out hb2)
          clear hb2
          go_wp2_with fail
          refine (Q1.out w2 HB2.out).mono ?_
          rintro e w3 ⟨rfl, hb3⟩
          have HB3 := Lib.hid (below_step HB2.out hb3)
          clear hb3
          go_wp2_with fail
          go_roundw
          case rel => exact ⟨k + 1, by omega, by omega, rfl, by go_num, ⟨_, HA2.out⟩, HB3.out⟩
          case measure => simp [intOf]; omega
      · have hv : v = 0 := by rw [← HA.out, tkAt_past zs acc k (by rw [HL.out]; omega)]; rfl
        subst hv
        have d : decide ((k : Int) < (n : Int)) = false := decide_eq_false (by omega)
        go_wp2_with fail
        go_ret
        exact ⟨rfl, HB.out⟩
  · have hv0 : v = 0 := by rw [← hv, takeS, if_neg h0]; rfl
    subst hv0
    have Q0 := Lib.hid (quoted_any A n c 0 0 rfl zs w hl hnc hm hr false (by rw [beq_eq_false_iff_ne.2 h0]; simp))
    clear hl hr hv h0 HV
    go_enter Tryz.func80, Tryz.ntmps80
    go_wp2_with (go_at_call 97; refine Q0.out.mono ?_; rintro e w1 ⟨rfl, hb1⟩; have HB1 := Lib.hid hb1; clear hb1 Q0)
    go_ret
    exact ⟨rfl, HB1.out⟩
theorem run_slice_1 (A : Option Addr) (n c q : Nat) (zs : List Int) (hl : zs.length = n) (hnc : n ≤ c) (hA : A = none → c = 0) (h1 : 1 ≤ q) (h2 : q ≤ n) : ∃ A', 
    (∀ W, (Instr.slice 35 (.slice A n c) (some (.int .i64 1)) (some (.int .i64 (q : Int))) none).run Tryz.prog W = .ok (.slice A' (q - 1) (c - 1)) W) ∧
    ∀ W, RdB W A zs → RdB W A' ((zs.drop 1).take (q - 1)) := by
  obtain ⟨A', h, _, h3⟩ := slice_lh A n c 1 q zs hl hnc hA h1 h2
  exact ⟨A', h, h3⟩
/-- Take's answers. -/
def TakeP (o : Option (List Int × Nat)) (w : World) (e : Ending) (w' : World) : Prop :=
  ∃ t : ByteArray, byt t = tkV o ∧ e = .returned (.tuple #[.string t, .int .i64 (tkN o : Int), .bool o.isSome]) ∧ Below w.heap.size w w'
set_option maxHeartbeats 2000000 in
theorem take_any (A : Option Addr) (n c : Nat) (zs : List Int) (w : World) (hl : zs.length = n) (hnc : n ≤ c) (hm : c ≤ 9223372036854775807) (hn : n ≤ 1000000000) (hb : Byte zs) (hr : RdB w A zs) (hA : A = none → c = 0) (hM : MaxL w) (o : Option (List Int × Nat)) (ho : takeS zs = o) :
    Calls Tryz.prog 67 #[.slice A n c] w (TakeP o w) := by
  have L := Lib.hid (slength_any A n c zs w hl hnc hm hn hr (tkN o) (by rw [ho]))
  cases o with
  | none =>
    clear hl hb hr ho hM
    go_enter Tryz.func67, Tryz.ntmps67
    go_wp2_with (go_at_call 80; refine L.out.mono ?_; rintro e w1 ⟨rfl, hb1⟩; have HB1 := Lib.hid hb1; clear hb1 L; simp only [tkN])
    go_ret3
    exact ⟨⟨#[]⟩, rfl, rfl, HB1.out⟩
  | some x =>
    obtain ⟨v, m⟩ := x
    obtain ⟨g1, g2, g3⟩ := takeS_sgl zs v m ho
    obtain ⟨q, rfl⟩ : ∃ q, m = q + 1 := ⟨m - 1, by omega⟩
    obtain ⟨A', hsl, hrd⟩ := run_slice_1 A n c q zs hl hnc hA (by omega) (by omega)
    rw [show q + 1 - 1 - 1 = q - 1 by omega] at g3
    have hy : Byte ((zs.drop 1).take (q - 1)) := (hb.drop 1).take _
    have hlen : ((zs.drop 1).take (q - 1)).length = q - 1 := by rw [List.length_take, List.length_drop]; omega
    have HR := Lib.hid hr
    have HM := Lib.hid hM
    have HRD := Lib.hid hrd
    have HG := Lib.hid g3
    have HY := Lib.hid hy
    have HLN := Lib.hid hlen
    have hq1 : 1 ≤ q := by omega
    have hqn : q + 1 ≤ n := by omega
    clear hl hb hr ho hM hrd g3 hy hlen g1 g2 hA
    generalize (zs.drop 1).take (q - 1) = ys at *
    have hst : (byt (strOfNums ys)) = ys := byt_strOfNums ys HY.out
    have hss : (strOfNums ys).size ≤ 1000000000 := by have := byt_len (strOfNums ys); rw [hst, HLN.out] at this; omega
    have hvb : byt (strOfNums v) = v := byt_strOfNums v (by rw [HG.out]; exact sgl_byte _ _ (Nat.le_refl _) HY.out)
    have HX : Hid (byt (strOfNums v) = sgl (byt (strOfNums ys))) := by show _ = _; rw [hst, hvb]; exact HG.out
    have HVB := Lib.hid hvb
    clear hst hvb
    go_enter Tryz.func67, Tryz.ntmps67
    go_wp2_with fail
    refine L.out.mono ?_
    rintro e w1 ⟨rfl, hb1⟩
    have HB1 := Lib.hid hb1
    clear hb1 L
    have hcv := run_string_rd w1 A' (q - 1) (c - 1) ys HLN.out (HRD.out w1 (HR.out.below HB1.out))
    simp only [tkN]
    rw [show ((q + 1 : Nat) : Int) = (q : Int) + 1 by omega]
    have d0 : ((q : Int) + 1 == 0) = false := beq_eq_false_iff_ne.2 (by omega)
    generalize strOfNums ys = y at *
    go_wp2_with fail
    refine (replace_sgl y w1 (HM.out.below HB1.out) hss _ HX.out).mono ?_
    rintro e w2 ⟨rfl, hb2⟩
    have HB2 := Lib.hid (below_step HB1.out hb2)
    clear hb2
    go_wp2_with fail
    go_ret3
    exact ⟨strOfNums v, HVB.out, rfl, HB2.out⟩
end Go.Proofs.YtnecapmnbaemiaaGreatDoor.Sg
