/- Chapter 5 (scalars in single quotes) as Lean functions on lists of numbers, and what they come to. No program. · The contracts of package single: quoted, length, inLine, Take, Put; strings.ReplaceAll at quotes. · The contracts of single.length, inLine, Take, Put; the document's example. · The document's own answers of chapter 5: TakeSingle, PutSingle. -/
import Derived.Test.YtcddlconcngjlaaQA
import Derived.Lib.ReplaceLaws
import Derived.Test.YtcddlconcngjlaaShelf
import Derived.Test.YtcddlconcngjlaaDoor
set_option linter.unusedSimpArgs false
set_option linter.unusedVariables false
namespace Go.Proofs.Ytcddlconcngjlaa.Sg
open Go.RowKit
set_option linter.unusedVariables false
set_option maxRecDepth 100000
def num (l : List UInt8) : List Int := l.map fun c => (c.toNat : Int)
/-- Each quote doubled. -/
def dbl : List Int → List Int
  | [] => []
  | c :: t => if c = 39 then 39 :: 39 :: dbl t else c :: dbl t
/-- Each doubled quote as one. -/
def sgl : List Int → List Int
  | [] => []
  | [c] => [c]
  | c :: d :: t => if c = 39 ∧ d = 39 then 39 :: sgl t else c :: sgl (d :: t)
theorem sgl_ne (c : Int) (t : List Int) (h : c ≠ 39) : sgl (c :: t) = c :: sgl t := by
  cases t with
  | nil => simp [sgl]
  | cons d t => rw [sgl, if_neg (by omega)]
theorem sgl_two (t : List Int) : sgl (39 :: 39 :: t) = 39 :: sgl t := by rw [sgl, if_pos ⟨rfl, rfl⟩]
theorem sgl_one (d : Int) (t : List Int) (h : d ≠ 39) : sgl (39 :: d :: t) = 39 :: sgl (d :: t) := by rw [sgl, if_neg (by omega)]
/-- Behind the first quote: the value, and how many bytes it takes with the last one. -/
def takeF : List Int → Option (List Int × Nat)
  | [] => none
  | [c] => if c = 39 then some ([], 1) else none
  | c :: d :: t => if c = 10 ∨ c = 13 then none else if c = 39 then (if d = 39 then (takeF t).map (fun x => (39 :: x.1, x.2 + 2)) else some ([], 1)) else (takeF (d :: t)).map (fun x => (c :: x.1, x.2 + 1))
theorem takeF_brk (c : Int) (t : List Int) (h : c = 10 ∨ c = 13) : takeF (c :: t) = none := by
  cases t with
  | nil => rw [takeF, if_neg (by omega)]
  | cons d t => rw [takeF, if_pos h]
theorem takeF_ne (c : Int) (t : List Int) (h : c ≠ 10) (h2 : c ≠ 13) (h3 : c ≠ 39) : takeF (c :: t) = (takeF t).map (fun x => (c :: x.1, x.2 + 1)) := by
  cases t with
  | nil => simp [takeF, h3]
  | cons d t => rw [takeF, if_neg (by omega), if_neg h3]
theorem takeF_two (t : List Int) : takeF (39 :: 39 :: t) = (takeF t).map (fun x => (39 :: x.1, x.2 + 2)) := by rw [takeF, if_neg (by omega), if_pos rfl, if_pos rfl]
theorem takeF_end (t : List Int) (h : t.head? ≠ some 39) : takeF (39 :: t) = some ([], 1) := by
  cases t with
  | nil => rw [takeF, if_pos rfl]
  | cons d t => rw [takeF, if_neg (by omega), if_pos rfl, if_neg (by simpa using h)]
/-- Four ways of a list that is not empty. -/
theorem take_ways (c : Int) (t : List Int) : (c = 10 ∨ c = 13) ∨ (c ≠ 10 ∧ c ≠ 13 ∧ c ≠ 39) ∨ (c = 39 ∧ ∃ t', t = 39 :: t') ∨ (c = 39 ∧ t.head? ≠ some 39) := by
  by_cases h1 : c = 10 ∨ c = 13
  · exact .inl h1
  · by_cases h2 : c = 39
    · right; right
      cases t with
      | nil => exact .inr ⟨h2, by simp⟩
      | cons d t =>
        by_cases hd : d = 39
        · subst hd; exact .inl ⟨h2, t, rfl⟩
        · exact .inr ⟨h2, by simpa using hd⟩
    · exact .inr (.inl ⟨by omega, by omega, h2⟩)
theorem takeF_sgl : ∀ (n : Nat) (t v : List Int) (m : Nat), t.length ≤ n → takeF t = some (v, m) → 1 ≤ m ∧ m ≤ t.length ∧ v = sgl (t.take (m - 1)) := by
  intro n
  induction n with
  | zero =>
    intro t v m hl h
    have : t = [] := List.eq_nil_of_length_eq_zero (by omega)
    subst this
    simp [takeF] at h
  | succ n ih =>
    intro t v m hl h
    match t, hl, h with
    | c :: t, hl, h =>
      simp at hl
      rcases take_ways c t with h1 | ⟨h1, h2, h3⟩ | ⟨rfl, t', rfl⟩ | ⟨rfl, h1⟩
      · rw [takeF_brk c t h1] at h; cases h
      · rw [takeF_ne c t h1 h2 h3] at h
        cases ht : takeF t with
        | none => rw [ht] at h; cases h
        | some x =>
          rw [ht] at h
          simp at h
          obtain ⟨rfl, rfl⟩ := h
          obtain ⟨g1, g2, g3⟩ := ih t x.1 x.2 (by omega) ht
          refine ⟨by omega, by simp; omega, ?_⟩
          obtain ⟨k, hk⟩ : ∃ k, x.2 = k + 1 := ⟨x.2 - 1, by omega⟩
          rw [hk] at g3 ⊢
          simp only [Nat.add_sub_cancel] at g3 ⊢
          rw [List.take_succ_cons, sgl_ne _ _ h3, ← g3]
      · rw [takeF_two] at h
        simp at hl
        cases ht : takeF t' with
        | none => rw [ht] at h; cases h
        | some x =>
          rw [ht] at h
          simp at h
          obtain ⟨rfl, rfl⟩ := h
          obtain ⟨g1, g2, g3⟩ := ih t' x.1 x.2 (by omega) ht
          refine ⟨by omega, by simp; omega, ?_⟩
          obtain ⟨k, hk⟩ : ∃ k, x.2 = k + 1 := ⟨x.2 - 1, by omega⟩
          rw [hk] at g3 ⊢
          simp only [Nat.add_sub_cancel] at g3 ⊢
          rw [show k + 1 + 2 - 1 = k + 1 + 1 by omega, List.take_succ_cons, List.take_succ_cons, sgl_two, ← g3]
      · rw [takeF_end t h1] at h
        simp at h
        obtain ⟨rfl, rfl⟩ := h
        exact ⟨by omega, by simp, by simp [sgl]⟩
/-- From place k on, what was read up to there being acc. -/
def tkAt (zs acc : List Int) (k : Nat) : Option (List Int × Nat) := (takeF (zs.drop k)).map fun x => (acc ++ x.1, x.2 + k)
theorem tkAt_past (zs acc : List Int) (k : Nat) (h : zs.length ≤ k) : tkAt zs acc k = none := by
  unfold tkAt; rw [List.drop_of_length_le h]; rfl
theorem drop_at (zs : List Int) (k : Nat) (h : k < zs.length) : zs.drop k = zs.getD k 0 :: zs.drop (k + 1) := by
  rw [List.drop_eq_getElem_cons h]; simp [List.getD, h]
theorem tkAt_brk (zs acc : List Int) (k : Nat) (h : k < zs.length) (hc : zs.getD k 0 = 10 ∨ zs.getD k 0 = 13) : tkAt zs acc k = none := by
  unfold tkAt; rw [drop_at zs k h, takeF_brk _ _ hc]; rfl
theorem tkAt_ne (zs acc : List Int) (k : Nat) (h : k < zs.length) (h1 : zs.getD k 0 ≠ 10) (h2 : zs.getD k 0 ≠ 13) (h3 : zs.getD k 0 ≠ 39) : tkAt zs acc k = tkAt zs (acc ++ [zs.getD k 0]) (k + 1) := by
  unfold tkAt; rw [drop_at zs k h, takeF_ne _ _ h1 h2 h3, Option.map_map]
  congr 1
  funext x
  simp
  omega
theorem tkAt_two (zs acc : List Int) (k : Nat) (h : k + 1 < zs.length) (h1 : zs.getD k 0 = 39) (h2 : zs.getD (k + 1) 0 = 39) : tkAt zs acc k = tkAt zs (acc ++ [39]) (k + 2) := by
  unfold tkAt; rw [drop_at zs k (by omega), drop_at zs (k + 1) h, h1, h2, takeF_two, Option.map_map]
  congr 1
  funext x
  simp
  omega
theorem tkAt_end (zs acc : List Int) (k : Nat) (h : k < zs.length) (h1 : zs.getD k 0 = 39) (h2 : ¬ (k + 1 < zs.length ∧ zs.getD (k + 1) 0 = 39)) : tkAt zs acc k = some (acc, k + 1) := by
  unfold tkAt; rw [drop_at zs k h, h1, takeF_end]
  · simp; omega
  · by_cases hl : k + 1 < zs.length
    · rw [drop_at zs (k + 1) hl]
      simp
      intro e
      exact h2 ⟨hl, by simpa [List.getD] using e⟩
    · rw [List.drop_of_length_le (by omega)]; simp
def takeS (zs : List Int) : Option (List Int × Nat) := if zs.getD 0 0 = 39 then tkAt zs [] 1 else none
theorem takeS_cons (t : List Int) : takeS (39 :: t) = (takeF t).map (fun x => (x.1, x.2 + 1)) := by
  unfold takeS tkAt; rw [if_pos (by simp [List.getD])]; simp
theorem takeS_sgl (zs v : List Int) (m : Nat) (h : takeS zs = some (v, m)) : 2 ≤ m ∧ m ≤ zs.length ∧ v = sgl ((zs.drop 1).take (m - 1 - 1)) := by
  unfold takeS at h
  split at h
  · unfold tkAt at h
    cases ht : takeF (zs.drop 1) with
    | none => rw [ht] at h; cases h
    | some x =>
      rw [ht] at h
      simp at h
      obtain ⟨rfl, rfl⟩ := h
      obtain ⟨g1, g2, g3⟩ := takeF_sgl _ _ x.1 x.2 (Nat.le_refl _) ht
      rw [List.length_drop] at g2
      refine ⟨by omega, by omega, ?_⟩
      rw [show x.2 + 1 - 1 - 1 = x.2 - 1 by omega]
      exact g3
  · cases h
/-- The three answers of Take. -/
def tkV (o : Option (List Int × Nat)) : List Int := match o with | some x => x.1 | none => []
def tkN (o : Option (List Int × Nat)) : Nat := match o with | some x => x.2 | none => 0
def putF (s : List Int) : List Int := 39 :: (dbl s ++ [39])
theorem sgl_byte : ∀ (n : Nat) (l : List Int), l.length ≤ n → Byte l → Byte (sgl l) := by
  intro n
  induction n with
  | zero =>
    intro l hl _
    have : l = [] := List.eq_nil_of_length_eq_zero (by omega)
    subst this
    intro z hz; simp [sgl] at hz
  | succ n ih =>
    intro l hl hb
    match l, hl, hb with
    | [], _, _ => intro z hz; simp [sgl] at hz
    | [c], _, hb => simpa [sgl] using hb
    | c :: d :: t, hl, hb =>
      simp at hl
      rw [sgl]
      split
      · intro z hz
        rcases List.mem_cons.1 hz with rfl | hz
        · omega
        · exact ih t (by omega) (fun y hy => hb y (by simp [hy])) z hz
      · intro z hz
        rcases List.mem_cons.1 hz with rfl | hz
        · exact hb _ (by simp)
        · exact ih (d :: t) (by simp; omega) (fun y hy => hb y (by simp at hy ⊢; exact .inr hy)) z hz
theorem dbl_byte (l : List Int) (hb : Byte l) : Byte (dbl l) := by
  induction l with
  | nil => intro z hz; simp [dbl] at hz
  | cons c t ih =>
    have ht := ih (fun y hy => hb y (by simp [hy]))
    have hc := hb c (by simp)
    rw [dbl]
    split
    · intro z hz
      simp at hz
      rcases hz with rfl | hz
      · omega
      · exact ht z hz
    · intro z hz
      rcases List.mem_cons.1 hz with rfl | hz
      · exact hc
      · exact ht z hz
theorem dbl_append (s t : List Int) : dbl (s ++ t) = dbl s ++ dbl t := by
  induction s with
  | nil => rfl
  | cons c s ih => rw [List.cons_append, dbl, dbl, ih]; split <;> simp
def NoBrk (s : List Int) : Prop := ∀ z ∈ s, z ≠ 10 ∧ z ≠ 13
theorem takeF_dbl (s tail : List Int) (hs : NoBrk s) (ht : tail.head? ≠ some 39) : takeF (dbl s ++ 39 :: tail) = some (s, (dbl s).length + 1) := by
  induction s with
  | nil => rw [dbl, List.nil_append, takeF_end tail ht]; rfl
  | cons c s ih =>
    have hc := hs c (by simp)
    have h := ih (fun z hz => hs z (by simp [hz]))
    rw [dbl]
    split
    · rename_i h3
      rw [List.cons_append, List.cons_append, takeF_two, h, h3]
      simp
    · rename_i h3
      rw [List.cons_append, takeF_ne _ _ hc.1 hc.2 h3, h]
      simp
theorem takeF_open (s : List Int) (hs : NoBrk s) : takeF (dbl s) = none := by
  induction s with
  | nil => rfl
  | cons c s ih =>
    have hc := hs c (by simp)
    have h := ih (fun z hz => hs z (by simp [hz]))
    rw [dbl]
    split
    · rw [takeF_two, h]; rfl
    · rename_i h3
      rw [takeF_ne _ _ hc.1 hc.2 h3, h]; rfl
theorem take_put (s tail : List Int) (hs : NoBrk s) (ht : tail.head? ≠ some 39) : takeS (putF s ++ tail) = some (s, (putF s).length) := by
  have e : putF s ++ tail = 39 :: (dbl s ++ 39 :: tail) := by simp [putF]
  rw [e, takeS_cons, takeF_dbl s tail hs ht]
  simp [putF]
theorem take_open (s : List Int) (hs : NoBrk s) : takeS (39 :: dbl s) = none := by
  rw [takeS_cons, takeF_open s hs]; rfl
/-- Take's answers. -/
def TakeP (o : Option (List Int × Nat)) (w : World) (e : Ending) (w' : World) : Prop :=
  ∃ t : ByteArray, byt t = tkV o ∧ e = .returned (.tuple #[.string t, .int .i64 (tkN o : Int), .bool o.isSome]) ∧ Below w.heap.size w w'
/-- Put's answers. -/
def PutP (s : List Int) (ok : Bool) (w : World) (e : Ending) (w' : World) : Prop :=
  ∃ t : ByteArray, byt t = (if ok = true then putF s else []) ∧ e = .returned (.tuple #[.string t, .bool ok]) ∧ Below w.heap.size w w'
theorem getD_str (s : ByteArray) (k : Nat) (h : k < s.size) : (byt s).getD k 0 = (s[k].toNat : Int) := by
  simp only [List.getD, byt_at s k h, Option.getD_some]
theorem dbl_snoc (zs : List Int) (k : Nat) (h : k < zs.length) : dbl (zs.take (k + 1)) = dbl (zs.take k) ++ (if zs.getD k 0 = 39 then [39, 39] else [zs.getD k 0]) := by
  have e : zs.take (k + 1) = zs.take k ++ [zs.getD k 0] := by
    rw [List.take_add_one, getD_at h]; rfl
  rw [e, dbl_append]
  simp only [dbl]
set_option maxHeartbeats 4000000 in
theorem refTake_any (A : Option Addr) (n c : Nat) (zs : List Int) (w : World) (hl : zs.length = n) (hnc : n ≤ c) (hm : c ≤ 9223372036854775807) (hn : n ≤ 1000000) (hb : Byte zs) (hr : RdB w A zs) (o : Option (List Int × Nat)) (ho : takeS zs = o) :
    Calls Try.prog 89 #[.slice A n c] w (TakeP o w) := by
  have HL := Lib.hid hl
  have HR := Lib.hid hr
  have HY := Lib.hid hb
  have HO := Lib.hid ho
  by_cases hn0 : 0 < n
  · obtain ⟨b, off, rfl, hc⟩ := hr.addr (by omega)
    have c0 := hc 0 (by omega)
    rw [Nat.add_zero] at c0
    have d0 : ((n : Int) == 0) = false := beq_eq_false_iff_ne.2 (by omega)
    have d0' : (0 : Int) < (n : Int) := by omega
    by_cases h0 : zs.getD 0 0 = 39
    · have HT : Hid (tkAt zs [] 1 = o) := by show _ = _; rw [← ho, takeS, if_pos h0]
      rw [h0] at c0
      have B0 : Hid (Below w.heap.size w w) := Below.refl _ _
      clear hl hr hb ho h0 HO hc
      go_enter Try.func89, Try.ntmps89
      go_wp2_with fail
      clear c0
      go_loopw [2, 3, 4, 5, 6] (fun r1 r2 r3 v i W => ∃ (k p cap : Nat) (A' : Option Addr), 1 ≤ k ∧ k ≤ n ∧ p ≤ k ∧ r1 = .string ⟨#[]⟩ ∧ r2 = .int .i64 0 ∧ r3 = .bool false ∧ v = .slice A' p cap ∧ i = .int .i64 (k : Int) ∧ p ≤ cap ∧ cap ≤ 9223372036854775807 ∧
        Hid (∃ out : List Int, out.length = p ∧ Byte out ∧ tkAt zs out k = o ∧ W.ownsRow w.heap.size 5 1 (.slice A' p cap) p (out.map (Value.int .u8)) ∧ Below w.heap.size w W)) (fun _ _ _ _ i _ => n - (intOf i).toNat)
      case atStart => exact ⟨1, 0, 0, none, by omega, by omega, by omega, rfl, rfl, rfl, rfl, rfl, by omega, by omega, [], rfl, (fun z hz => by cases hz), HT.out, own_nil _ _ _ _, B0.out⟩
      case round =>
        obtain ⟨k, p, cap, A', hk1, hk, hpk, rfl, rfl, rfl, rfl, rfl, hpc, hcap, HK⟩ := hrel
        obtain ⟨W, hW⟩ : ∃ x, x = wr := ⟨_, rfl⟩
        subst hW
        obtain ⟨out, hol, hoy, hot, hown, hbel⟩ := HK.out
        have HB := Lib.hid hbel
        have HOL := Lib.hid hol
        have HOY := Lib.hid hoy
        have HOT := Lib.hid hot
        have HOWN := Lib.hid hown
        clear hol hoy hot hown hbel HK
        by_cases hlt : k < n
        · have hkz : k < zs.length := by rw [HL.out]; exact hlt
          have hrw := HR.out.below HB.out
          obtain ⟨b', off', e', hc⟩ := hrw.addr (by rw [HL.out]; omega)
          injection e' with e'
          injection e' with e1 e2
          subst e1 e2
          have ck := hc k hkz
          have d : (k : Int) < (n : Int) := by omega
          by_cases hbr : zs.getD k 0 = 10 ∨ zs.getD k 0 = 13
          · have hv : o = none := by rw [← HOT.out, tkAt_brk zs out k hkz hbr]
            subst hv
            clear hrw hc
            rcases hbr with hz | hz
            · rw [hz] at ck
              clear hz hkz
              go_wp2_with fail
              go_ret3
              exact ⟨⟨#[]⟩, rfl, rfl, HB.out⟩
            · rw [hz] at ck
              clear hz hkz
              go_wp2_with fail
              go_ret3
              exact ⟨⟨#[]⟩, rfl, rfl, HB.out⟩
          · have h10 : zs.getD k 0 ≠ 10 := fun h => hbr (.inl h)
            have h13 : zs.getD k 0 ≠ 13 := fun h => hbr (.inr h)
            have e10 : (zs.getD k 0 == 10) = false := beq_eq_false_iff_ne.2 h10
            have e13 : (zs.getD k 0 == 13) = false := beq_eq_false_iff_ne.2 h13
            by_cases hz : zs.getD k 0 = 39
            · by_cases hz2 : k + 1 < n ∧ zs.getD (k + 1) 0 = 39
              · have ck2 := hc (k + 1) (by rw [HL.out]; omega)
                rw [hz2.2] at ck2
                rw [hz] at ck
                have d2 : (k : Int) + 1 < (n : Int) := by omega
                have HT2 : Hid (tkAt zs (out ++ [39]) (k + 2) = o) := by show _ = _; rw [← HOT.out, tkAt_two zs out k (by rw [HL.out]; omega) hz hz2.2]
                obtain ⟨A2, cap2, W2, hrun, g1, g2, _, g4, g5⟩ := one_more w W A' cap p out HOL.out HOWN.out HB.out 39 (by omega)
                have HRUN := Lib.hid hrun
                have HG := Lib.hid (And.intro g4 g5)
                have hk2 := hz2.1
                clear hrw hc hbr h10 h13 e10 e13 hz hz2 hkz hrun g4 g5
                go_wp2_with (at_builtin; refine wpList_append_known rfl _ (.tmp 67) 96 rfl (.slice A' p cap) (.slice (some ⟨W.heap.size, 0, none⟩) 1 1) _ _ rfl rfl HRUN.out ?_)
                go_roundw
                case rel => exact ⟨k + 2, p + 1, cap2, A2, by omega, by omega, by omega, rfl, rfl, rfl, rfl, by go_num, g1, g2, out ++ [39], by simp [HOL.out], HOY.out.append (by intro z hz; simp at hz; omega), HT2.out, HG.out.1, HG.out.2⟩
                case measure => simp [intOf]; omega
              · have hv : o = some (out, k + 1) := by rw [← HOT.out, tkAt_end zs out k hkz hz (by rw [HL.out]; exact hz2)]
                have HVV := Lib.hid hv
                have hcv := run_string_rd W A' p cap out HOL.out (RdC.own HOWN.out).toB
                have HS : Hid (byt (strOfNums out) = out) := byt_strOfNums out HOY.out
                generalize strOfNums out = ys at *
                rw [hz] at ck
                by_cases hk2 : k + 1 < n
                · have ck2 := hc (k + 1) (by rw [HL.out]; omega)
                  have e39 : (zs.getD (k + 1) 0 == 39) = false := beq_eq_false_iff_ne.2 (fun h => hz2 ⟨hk2, h⟩)
                  have d2 : (k : Int) + 1 < (n : Int) := by omega
                  clear hrw hc hbr h10 h13 e10 e13 hz hz2 hkz hv
                  generalize zs.getD (k + 1) 0 = y at *
                  go_wp2_with fail
                  go_ret3
                  exact ⟨ys, by rw [HVV.out]; exact HS.out, by rw [HVV.out]; simp [tkN], HB.out⟩
                · have d2 : decide ((k : Int) + 1 < (n : Int)) = false := decide_eq_false (by omega)
                  clear hrw hc hbr h10 h13 e10 e13 hz hz2 hkz hv
                  go_wp2_with fail
                  go_ret3
                  exact ⟨ys, by rw [HVV.out]; exact HS.out, by rw [HVV.out]; simp [tkN], HB.out⟩
            · have HT2 : Hid (tkAt zs (out ++ [zs.getD k 0]) (k + 1) = o) := by show _ = _; rw [← HOT.out, tkAt_ne zs out k hkz h10 h13 hz]
              have hzb := HY.out.at_ hkz
              have e39 : (zs.getD k 0 == 39) = false := beq_eq_false_iff_ne.2 hz
              clear hrw hc hbr h10 h13 hz hkz
              generalize zs.getD k 0 = z at *
              obtain ⟨A2, cap2, W2, hrun, g1, g2, _, g4, g5⟩ := one_more w W A' cap p out HOL.out HOWN.out HB.out z (by omega)
              have HRUN := Lib.hid hrun
              have HG := Lib.hid (And.intro g4 g5)
              clear hrun g4 g5
              go_wp2_with (at_builtin; refine wpList_append_known rfl _ (.tmp 50) 96 rfl (.slice A' p cap) (.slice (some ⟨W.heap.size, 0, none⟩) 1 1) _ _ rfl rfl HRUN.out ?_)
              go_roundw
              case rel => exact ⟨k + 1, p + 1, cap2, A2, by omega, by omega, by omega, rfl, rfl, rfl, rfl, by go_num, g1, g2, out ++ [z], by simp [HOL.out], HOY.out.append (by intro y hy; simp at hy; subst hy; exact hzb), HT2.out, HG.out.1, HG.out.2⟩
              case measure => simp [intOf]; omega
        · have hv : o = none := by rw [← HOT.out, tkAt_past zs out k (by rw [HL.out]; omega)]
          subst hv
          have d : decide ((k : Int) < (n : Int)) = false := decide_eq_false (by omega)
          go_wp2_with fail
          go_ret3
          exact ⟨⟨#[]⟩, rfl, rfl, HB.out⟩
    · have hv : o = none := by rw [← ho, takeS, if_neg h0]
      subst hv
      have e39 : (zs.getD 0 0 == 39) = false := beq_eq_false_iff_ne.2 h0
      have B0 : Hid (Below w.heap.size w w) := Below.refl _ _
      clear hl hr hb ho h0 HO hc HL HR HY
      generalize zs.getD 0 0 = z at *
      go_enter Try.func89, Try.ntmps89
      go_wp2_with fail
      go_ret3
      exact ⟨⟨#[]⟩, rfl, rfl, B0.out⟩
  · obtain rfl : n = 0 := by omega
    have hz : zs = [] := List.eq_nil_of_length_eq_zero hl
    subst hz
    have hv : o = none := by rw [← ho]; rfl
    subst hv
    have B0 : Hid (Below w.heap.size w w) := Below.refl _ _
    clear hl hr hb ho HO HL HR HY
    go_enter Try.func89, Try.ntmps89
    go_wp2_with fail
    go_ret3
    exact ⟨⟨#[]⟩, rfl, rfl, B0.out⟩
set_option maxHeartbeats 4000000 in
theorem refPut_any (s : ByteArray) (w : World) (hs : s.size ≤ 1000000) (ok : Bool) (hok : inF true s.size (byt s) = ok) :
    Calls Try.prog 96 #[.string s] w (PutP (byt s) ok w) := by
  have C := Lib.hid (clean_any s true w hs ok hok)
  clear hok
  cases ok
  · go_enter Try.func96, Try.ntmps96
    go_wp2_with (go_at_call 109; refine C.out.mono ?_; rintro e w1 ⟨rfl, hb1⟩; have HB1 := Lib.hid hb1; clear hb1)
    go_ret2
    exact ⟨⟨#[]⟩, rfl, rfl, HB1.out⟩
  · go_enter Try.func96, Try.ntmps96
    go_wp2_with fail
    refine C.out.mono ?_
    rintro e w1 ⟨rfl, hb1⟩
    have HB1 := Lib.hid hb1
    clear hb1 C
    go_wp2_with fail
    go_loopw [4, 5] (fun v i W => ∃ (k p cap : Nat) (A' : Option Addr), k ≤ s.size ∧ p ≤ 1 + 2 * k ∧ v = .slice A' p cap ∧ i = .int .i64 (k : Int) ∧ p ≤ cap ∧ cap ≤ 9223372036854775807 ∧
      Hid ((39 :: dbl ((byt s).take k)).length = p ∧ W.ownsRow w.heap.size 5 1 (.slice A' p cap) p ((39 :: dbl ((byt s).take k)).map (Value.int .u8)) ∧ Below w.heap.size w W)) (fun _ i _ => s.size - (intOf i).toNat)
    case atStart => exact ⟨0, 1, 1, _, by omega, by omega, rfl, rfl, by omega, by omega, rfl, own_one w w1 HB1.out.size 39, HB1.out.alloc HB1.out.size _⟩
    case round =>
      obtain ⟨k, p, cap, A', hk, hpk, rfl, rfl, hpc, hcap, HK⟩ := hrel
      obtain ⟨W, hW⟩ : ∃ x, x = wr := ⟨_, rfl⟩
      subst hW
      obtain ⟨hol, hown, hbel⟩ := HK.out
      have HB := Lib.hid hbel
      have HOL := Lib.hid hol
      have HOWN := Lib.hid hown
      clear hol hown hbel HK
      by_cases hlt : k < s.size
      · have d : (k : Int) < (s.size : Int) := by omega
        have hds := dbl_snoc (byt s) k (by rw [byt_len]; exact hlt)
        have hgs := getD_str s k hlt
        have hzb := (byt_byte s).at_ (k := k) (by rw [byt_len]; exact hlt)
        rw [hgs] at hds hzb
        clear hgs
        have HDS := Lib.hid hds
        clear hds
        by_cases hz : (s[k].toNat : Int) = 39
        · have e39 : ((s[k].toNat : Int) == 39) = true := beq_iff_eq.2 hz
          obtain ⟨A2, cap2, W2, hrun, g1, g2, _, g4, g5⟩ := one_more w W A' cap p _ HOL.out HOWN.out HB.out 39 (by omega)
          obtain ⟨A3, cap3, W3, hrun3, k1, k2, _, k4, k5⟩ := one_more w W2 A2 cap2 (p + 1) _ (by rw [List.length_append, HOL.out]; rfl) g4 g5 (s[k].toNat : Int) (by omega)
          have HX : Hid (39 :: dbl ((byt s).take k) ++ [39] ++ [(s[k].toNat : Int)] = 39 :: dbl ((byt s).take (k + 1))) := by
            show _ = _
            rw [HDS.out, if_pos hz, hz]; simp
          rw [HX.out] at k4
          have HXL : Hid ((39 :: dbl ((byt s).take (k + 1))).length = p + 2) := by
            show _ = _
            rw [← HX.out, List.length_append, List.length_append, HOL.out]; rfl
          have HRUN := Lib.hid hrun
          have HRUN3 := Lib.hid hrun3
          have HG := Lib.hid (And.intro k4 k5)
          clear hz hrun hrun3 g4 g5 k4 k5 HDS HX
          go_wp2_with (at_builtin; first
            | refine wpList_append_known rfl _ (.tmp 21) 96 rfl (.slice A' p cap) (.slice (some ⟨W.heap.size, 0, none⟩) 1 1) _ _ rfl rfl HRUN.out ?_
            | refine wpList_append_known rfl _ (.tmp 27) 96 rfl (.slice A2 (p + 1) cap2) (.slice (some ⟨W2.heap.size, 0, none⟩) 1 1) _ _ rfl rfl HRUN3.out ?_)
          go_roundw
          case rel => exact ⟨k + 1, p + 2, cap3, A3, by omega, by omega, rfl, by go_num, by omega, k2, HXL.out, HG.out.1, HG.out.2⟩
          case measure => simp [intOf]; omega
        · have e39 : ((s[k].toNat : Int) == 39) = false := beq_eq_false_iff_ne.2 hz
          obtain ⟨A3, cap3, W3, hrun3, k1, k2, _, k4, k5⟩ := one_more w W A' cap p _ HOL.out HOWN.out HB.out (s[k].toNat : Int) (by omega)
          have HX : Hid (39 :: dbl ((byt s).take k) ++ [(s[k].toNat : Int)] = 39 :: dbl ((byt s).take (k + 1))) := by
            show _ = _
            rw [HDS.out, if_neg hz]; simp
          rw [HX.out] at k4
          have HXL : Hid ((39 :: dbl ((byt s).take (k + 1))).length = p + 1) := by
            show _ = _
            rw [← HX.out, List.length_append, HOL.out]; rfl
          have HRUN3 := Lib.hid hrun3
          have HG := Lib.hid (And.intro k4 k5)
          clear hz hrun3 k4 k5 HDS HX
          go_wp2_with (at_builtin; refine wpList_append_known rfl _ (.tmp 27) 96 rfl (.slice A' p cap) (.slice (some ⟨W.heap.size, 0, none⟩) 1 1) _ _ rfl rfl HRUN3.out ?_)
          go_roundw
          case rel => exact ⟨k + 1, p + 1, cap3, A3, by omega, by omega, rfl, by go_num, k1, k2, HXL.out, HG.out.1, HG.out.2⟩
          case measure => simp [intOf]; omega
      · obtain rfl : k = s.size := by omega
        have d : decide ((s.size : Int) < (s.size : Int)) = false := decide_eq_false (by omega)
        obtain ⟨A3, cap3, W3, hrun3, k1, k2, _, k4, k5⟩ := one_more w W A' cap p _ HOL.out HOWN.out HB.out 39 (by omega)
        have hx : 39 :: dbl ((byt s).take s.size) ++ [39] = putF (byt s) := by
          rw [List.take_of_length_le (by rw [byt_len]; omega)]; rfl
        rw [hx] at k4
        have hxb : Byte (putF (byt s)) := by
          intro z hz
          simp [putF] at hz
          rcases hz with rfl | hz | rfl
          · omega
          · exact dbl_byte _ (byt_byte s) z hz
          · omega
        have hxl : (putF (byt s)).length = p + 1 := by rw [← hx, List.length_append, HOL.out]; rfl
        have hcv := run_string_rd W3 A3 (p + 1) cap3 (putF (byt s)) hxl (RdC.own k4).toB
        have HS : Hid (byt (strOfNums (putF (byt s))) = putF (byt s)) := byt_strOfNums _ hxb
        have HRUN3 := Lib.hid hrun3
        have HG := Lib.hid k5
        generalize strOfNums (putF (byt s)) = y at *
        clear hrun3 k4 k5 hx hxb hxl
        go_wp2_with (at_builtin; refine wpList_append_known rfl _ (.tmp 30) 96 rfl (.slice A' p cap) (.slice (some ⟨W.heap.size, 0, none⟩) 1 1) _ _ rfl rfl HRUN3.out ?_)
        go_ret2
        exact ⟨y, HS.out, rfl, HG.out⟩
end Go.Proofs.Ytcddlconcngjlaa.Sg
