/- Chapter 9 (a text as a scalar) as Lean functions, and facts on them. No program. · Package style: readAs, Choose, Key, Best. -/
import Derived.Test.YtclgahmgoiobaaaGreatDoorMB
import Derived.Test.YtclgahmgoiobaaaGreatDoorMC
import Derived.Test.YtclgahmgoiobaaaGreatDoorMD
set_option linter.unusedSimpArgs false
set_option linter.unusedVariables false
/-! ### StPure -/
namespace Go.Proofs.YtclgahmgoiobaaaGreatDoor
open Go.RowKit
set_option linter.unusedVariables false
set_option maxRecDepth 100000

def strT : ByteArray := ⟨#[33, 33, 115, 116, 114]⟩
/-- A text that is read as that text, with that tag, where it stands as it is. -/
def readF (tag s : ByteArray) (fl : Bool) : Bool := validF (byt s) fl && (resF s.toList == tag.toList)
/-- A text in double quotes. -/
def putA (s : ByteArray) : Option ByteArray := (putD (byt s)).map strOfNums
def chooseF (s : ByteArray) (fl : Bool) : ByteArray := if readF strT s fl = true then s else (putA s).getD ⟨#[]⟩
def keyOf (c : ByteArray) : Option ByteArray := if c.size = 0 then none else if 128 < c.size then none else some c
def someF (c : ByteArray) : Option ByteArray := if c.size = 0 then none else some c
def bestF (tag s : ByteArray) (fl : Bool) : Option ByteArray :=
  if tag = strT then someF (chooseF s fl) else if readF tag s fl = true then some s else (putA s).map fun p => tag ++ ⟨#[32]⟩ ++ p

theorem size_nil {c : ByteArray} (h : c.size = 0) : c = ⟨#[]⟩ := byt_inj (by
  have : (byt c).length = 0 := by rw [byt_len]; exact h
  rw [List.eq_nil_of_length_eq_zero this]; rfl)
theorem putA_some {s p : ByteArray} (h : putA s = some p) : putD (byt s) = some (byt p) := by
  unfold putA at h
  cases hq : putD (byt s) with
  | none => rw [hq] at h; cases h
  | some l =>
    rw [hq] at h
    simp only [Option.map_some, Option.some.injEq] at h
    rw [← h, byt_strOfNums]
    obtain ⟨rs, rfl, hr⟩ := fine_put (byt_byte s) hq
    intro z hz
    obtain ⟨r, hm, hz⟩ := List.mem_flatMap.1 hz
    exact utfF_byte (hr r hm).1 z hz
theorem putA_none {s : ByteArray} : putA s = none ↔ putD (byt s) = none := by
  unfold putA
  cases putD (byt s) <;> simp
theorem putA_size {s p : ByteArray} (h : putA s = some p) : 2 ≤ p.size ∧ p.size ≤ 10 * s.size + 2 := by
  have := put_size (byt_byte s) (putA_some h)
  rw [byt_len, byt_len] at this
  exact this
theorem choose_size (s : ByteArray) (fl : Bool) : (chooseF s fl).size ≤ 10 * s.size + 2 := by
  unfold chooseF
  split
  · omega
  · cases h : putA s with
    | none => exact Nat.zero_le _
    | some p => exact (putA_size h).2

/-! ### Quotes: a text in quotes has two more of them -/
theorem count_rune (r : Int) (hok : okR r = true) : (utfF r).count 34 ≤ (wrF r).count 34 := by
  by_cases h : r = 34
  · subst h; decide +kernel
  · have e : (utfF r).count 34 = 0 := by
      apply List.count_eq_zero.2
      intro hm
      by_cases hr : r < 128
      · unfold utfF at hm
        rw [if_pos hr] at hm
        simp only [List.mem_singleton] at hm
        exact h hm.symm
      · have := utfF_hi (by omega) (okR_parts hok).2.1 34 hm
        omega
    rw [e]; exact Nat.zero_le _
theorem count_pq : ∀ (n : Nat) (zs y : List Int), zs.length ≤ n → Byte zs → pq zs = some y → zs.count 34 ≤ y.count 34 := by
  intro n
  induction n with
  | zero =>
    intro zs y hl hb hp
    have : zs = [] := List.eq_nil_of_length_eq_zero (by omega)
    subst this
    exact Nat.zero_le _
  | succ n ih =>
    intro zs y hl hb hp
    by_cases hz : zs = []
    · subst hz; exact Nat.zero_le _
    rcases hf : runeF zs with ⟨r, j, ok⟩
    cases ok
    · rw [pq_bad zs hz r j hf] at hp; cases hp
    · rw [pq_good zs hz r j hf] at hp
      obtain ⟨hok, hj1, hj2, hu⟩ := utf_runeF zs hb r j hf
      cases hq : pq (zs.drop j.toNat) with
      | none => rw [hq] at hp; cases hp
      | some y2 =>
        rw [hq] at hp
        simp only [Option.map_some, Option.some.injEq] at hp
        subst hp
        have h1 := ih _ y2 (by rw [List.length_drop]; omega) (hb.drop _) hq
        have h2 := count_rune r hok
        rw [hu] at h2
        rw [List.count_append, ← List.take_append_drop j.toNat zs, List.count_append]
        omega
theorem put_other {zs p : List Int} (hb : Byte zs) (h : putD zs = some p) : p ≠ zs := by
  rintro rfl
  obtain ⟨y, hy, e⟩ := put_some h
  have h1 := count_pq _ p y (Nat.le_refl _) hb hy
  have h2 : p.count 34 = y.count 34 + 2 := by
    rw [e]; simp
  omega

/-! ### What is chosen -/
theorem choose_nil {s : ByteArray} {fl : Bool} (h : (chooseF s fl).size = 0) : readF strT s fl = false ∧ putA s = none := by
  unfold chooseF at h
  split at h
  · rename_i hr
    unfold readF validF at hr
    rw [byt_len, h] at hr
    simp at hr
  · rename_i hr
    refine ⟨by simpa using hr, ?_⟩
    cases hp : putA s with
    | none => rfl
    | some p =>
      rw [hp] at h
      have := (putA_size hp).1
      simp only [Option.getD_some] at h
      omega
theorem choose_self {s : ByteArray} {fl : Bool} (h0 : (chooseF s fl).size ≠ 0) (h : chooseF s fl = s) : readF strT s fl = true := by
  cases hr : readF strT s fl with
  | true => rfl
  | false =>
    unfold chooseF at h h0
    rw [hr] at h h0
    simp only [Bool.false_eq_true, if_false] at h h0
    cases hp : putA s with
    | none => rw [hp] at h0; exact absurd rfl h0
    | some p =>
      rw [hp] at h
      simp only [Option.getD_some] at h
      subst h
      exact absurd rfl (put_other (byt_byte _) (putA_some hp))
theorem choose_take {s : ByteArray} {fl : Bool} (h0 : (chooseF s fl).size ≠ 0) (h : chooseF s fl ≠ s) : readF strT s fl = false ∧ takeD (byt (chooseF s fl)) = some (byt s, (chooseF s fl).size) := by
  cases hr : readF strT s fl with
  | true => exact absurd (by unfold chooseF; rw [if_pos hr]) h
  | false =>
    refine ⟨rfl, ?_⟩
    unfold chooseF at h h0 ⊢
    rw [hr] at h h0 ⊢
    simp only [Bool.false_eq_true, if_false] at h h0 ⊢
    cases hp : putA s with
    | none => rw [hp] at h0; exact absurd rfl h0
    | some p =>
      have := take_put (byt_byte s) (putA_some hp) []
      rw [List.append_nil] at this
      simp only [Option.getD_some]
      rw [this, byt_len]
theorem choose_wakes : chooseF ⟨#[116, 114, 117, 101]⟩ false = ⟨#[34, 116, 114, 117, 101, 34]⟩ ∧ chooseF ⟨#[97]⟩ true = ⟨#[97]⟩ := by
  have l1 : (⟨#[116, 114, 117, 101]⟩ : ByteArray).toList = [116, 114, 117, 101] := mk_list [116, 114, 117, 101]
  have l2 : (⟨#[97]⟩ : ByteArray).toList = [97] := mk_list [97]
  have l3 : strT.toList = [33, 33, 115, 116, 114] := mk_list [33, 33, 115, 116, 114]
  constructor
  · unfold chooseF readF
    rw [l1, l3]
    decide +kernel
  · unfold chooseF readF
    rw [l2, l3]
    decide +kernel
end Go.Proofs.YtclgahmgoiobaaaGreatDoor
/-! ### StMain -/
namespace Go.Proofs.YtclgahmgoiobaaaGreatDoor
open Go.RowKit
set_option linter.unusedVariables false
set_option maxRecDepth 100000

/-- A text, or none: as a text and a bool. -/
def OptP (o : Option ByteArray) (w : World) (e : Ending) (w' : World) : Prop := e = .returned (.tuple #[.string (o.getD ⟨#[]⟩), .bool o.isSome]) ∧ Below w.heap.size w w'
theorem putP_opt {s : ByteArray} {w : World} {e : Ending} {w' : World} (o : Option ByteArray) (ho : putA s = o) (h : PutP (putD (byt s)) w e w') : OptP o w e w' := by
  obtain ⟨p, hp, rfl, hb⟩ := h
  cases hq : putD (byt s) with
  | none =>
    rw [hq] at hp
    have e1 : o = none := by rw [← ho]; exact putA_none.2 hq
    subst e1
    obtain rfl : p = ⟨#[]⟩ := byt_inj (by rw [hp]; rfl)
    exact ⟨rfl, hb⟩
  | some l =>
    rw [hq] at hp
    have e1 : o = some p := by rw [← ho]; unfold putA; rw [hq]; simp only [Option.map_some, Option.getD_some] at hp ⊢; rw [← hp, strOfNums_byt]
    subst e1
    exact ⟨rfl, hb⟩
theorem puts_at {w W : World} (hb : Below w.heap.size w W) (hS : Shorts w) (s : ByteArray) (hs : s.size ≤ 1000000) (o : Option ByteArray) (ho : putA s = o) :
    Calls Tryz.prog 33 #[.string s] W (OptP o w) := (put_txt hb hS hs _ rfl).mono fun e w' h => putP_opt o ho h

set_option maxHeartbeats 1000000 in
theorem readAs_at {w W : World} (hb : Below w.heap.size w W) (tag s : ByteArray) (fl : Bool) (hs : s.size ≤ 1000000) (b : Bool) (h : readF tag s fl = b) :
    Calls Tryz.prog 32 #[.string tag, .string s, .bool fl] W (BoolP b w) := by
  unfold readF at h
  obtain ⟨r, hr⟩ : ∃ r : ByteArray, resF s.toList = r.toList := ⟨mk _, (mk_list _).symm⟩
  rw [hr] at h
  have HR := Lib.hid hr
  obtain ⟨v, hv⟩ : ∃ v, validF (byt s) fl = v := ⟨_, rfl⟩
  rw [hv] at h
  have HV := Lib.hid hv
  have HB := Lib.hid hb
  have HH := Lib.hid h
  clear hr hv hb h
  cases v
  · obtain rfl : b = false := HH.out.symm
    go_enter Tryz.func32, Tryz.ntmps32
    go_wp2_with fail
    refine (valid_txt HB.out hs fl _ rfl _ HV.out).mono ?_
    rintro e w1 ⟨rfl, hb1⟩
    have HB1 := Lib.hid hb1
    clear hb1
    go_wp2_with fail
    go_ret
    exact ⟨rfl, HB1.out⟩
  · obtain ⟨t, ht⟩ : ∃ t, (r.toList == tag.toList) = t := ⟨_, rfl⟩
    obtain rfl : b = t := by rw [← HH.out, ht]; rfl
    clear HH
    go_enter Tryz.func32, Tryz.ntmps32
    go_wp2_with fail
    refine (valid_txt HB.out hs fl _ rfl _ HV.out).mono ?_
    rintro e w1 ⟨rfl, hb1⟩
    have HB1 := Lib.hid hb1
    clear hb1
    go_wp2_with fail
    refine (res_at HB1.out s (by omega) r HR.out).mono ?_
    rintro e w2 ⟨rfl, hb2⟩
    have HB2 := Lib.hid hb2
    clear hb2
    go_wp2_with fail
    go_ret
    exact ⟨rfl, HB2.out⟩

set_option maxHeartbeats 1000000 in
theorem choose_at {w W : World} (hb : Below w.heap.size w W) (hS : Shorts w) (s : ByteArray) (fl : Bool) (hs : s.size ≤ 1000000) (c : ByteArray) (h : chooseF s fl = c) :
    Calls Tryz.prog 23 #[.string s, .bool fl] W (TxtP c w) := by
  have HB := Lib.hid hb
  have HS := Lib.hid hS
  have HH := Lib.hid h
  clear hb hS h
  obtain ⟨b, hv⟩ : ∃ b, readF ⟨#[33, 33, 115, 116, 114]⟩ s fl = b := ⟨_, rfl⟩
  have HV := Lib.hid hv
  clear hv
  cases b
  · obtain ⟨o, ho⟩ : ∃ o, putA s = o := ⟨_, rfl⟩
    have hc : o.getD ⟨#[]⟩ = c := by rw [← HH.out, ← ho]; unfold chooseF; rw [if_neg (by rw [show readF strT s fl = false from HV.out]; simp)]
    have HC := Lib.hid hc
    have HO := Lib.hid ho
    clear ho HH hc
    go_enter Tryz.func23, Tryz.ntmps23
    go_wp2_with fail
    refine (readAs_at HB.out _ s fl hs _ HV.out).mono ?_
    rintro e w1 ⟨rfl, hb1⟩
    have HB1 := Lib.hid hb1
    clear hb1
    go_wp2_with fail
    refine (puts_at HB1.out HS.out s hs o HO.out).mono ?_
    rintro e w2 ⟨rfl, hb2⟩
    have HB2 := Lib.hid hb2
    clear hb2
    rw [HC.out]
    generalize o.isSome = ok
    go_wp2_with fail
    go_ret
    exact ⟨rfl, HB2.out⟩
  · obtain rfl : c = s := by rw [← HH.out]; unfold chooseF; rw [if_pos (show readF strT s fl = true from HV.out)]
    clear HH
    go_enter Tryz.func23, Tryz.ntmps23
    go_wp2_with fail
    refine (readAs_at HB.out _ c fl hs _ HV.out).mono ?_
    rintro e w1 ⟨rfl, hb1⟩
    have HB1 := Lib.hid hb1
    clear hb1
    go_wp2_with fail
    go_ret
    exact ⟨rfl, HB1.out⟩

set_option maxHeartbeats 2000000 in
theorem best_at {w W : World} (hb : Below w.heap.size w W) (hS : Shorts w) (tag s : ByteArray) (fl : Bool) (ht : tag.size ≤ 1000000) (hs : s.size ≤ 1000000) (o : Option ByteArray) (ho : bestF tag s fl = o) :
    Calls Tryz.prog 22 #[.string tag, .string s, .bool fl] W (OptP o w) := by
  have HB := Lib.hid hb
  have HS := Lib.hid hS
  have HO := Lib.hid ho
  clear hb hS ho
  have l3 : strT.toList = [33, 33, 115, 116, 114] := mk_list [33, 33, 115, 116, 114]
  by_cases hts : tag = strT
  · obtain ⟨c, hc⟩ : ∃ c, chooseF s fl = c := ⟨_, rfl⟩
    obtain rfl : someF c = o := by rw [← HO.out, bestF, if_pos hts, hc]
    have HC := Lib.hid (choose_at HB.out HS.out s fl hs c hc)
    have d1 : (tag.toList == [33, 33, 115, 116, 114]) = true := by rw [hts, l3]; rfl
    have d2 : tag.toList = [33, 33, 115, 116, 114] := by rw [hts, l3]
    have D2 := Lib.hid d2
    clear HO hts hc l3 d2
    by_cases h0 : c.size = 0
    · obtain ⟨e1, e2⟩ := str_nil c h0
      have hsf : someF c = none := by rw [someF, if_pos h0]
      rw [hsf]
      obtain rfl := size_nil h0
      clear hsf
      go_enter Tryz.func22, Tryz.ntmps22
      go_wp2_with fail
      refine HC.out.mono ?_
      rintro e w1 ⟨rfl, hb1⟩
      have HB1 := Lib.hid hb1
      clear hb1
      go_wp2_with fail
      go_ret2
      exact ⟨rfl, HB1.out⟩
    · obtain ⟨e1, e2⟩ := str_none c (by omega)
      have hsf : someF c = some c := by rw [someF, if_neg h0]
      rw [hsf]
      clear hsf
      go_enter Tryz.func22, Tryz.ntmps22
      go_wp2_with fail
      refine HC.out.mono ?_
      rintro e w1 ⟨rfl, hb1⟩
      have HB1 := Lib.hid hb1
      clear hb1
      go_wp2_with fail
      go_ret2
      exact ⟨rfl, HB1.out⟩
  · have d1 : (tag.toList == [33, 33, 115, 116, 114]) = false := by
      rw [← l3]; exact beq_eq_false_iff_ne.2 (fun h => hts (list_inj h))
    have d2 : ¬ tag.toList = [33, 33, 115, 116, 114] := by rw [← l3]; exact fun h => hts (list_inj h)
    obtain ⟨b, hv⟩ : ∃ b, readF tag s fl = b := ⟨_, rfl⟩
    have hof : o = if b = true then some s else (putA s).map fun p => tag ++ ⟨#[32]⟩ ++ p := by rw [← HO.out, bestF, if_neg hts, hv]
    have HOF := Lib.hid hof
    have HV := Lib.hid hv
    clear HO hv l3 hof hts
    cases b
    · obtain ⟨q, hq⟩ : ∃ q, putA s = q := ⟨_, rfl⟩
      have HQ := Lib.hid (fun (W1 : World) (hb1 : Below w.heap.size w W1) => puts_at hb1 HS.out s hs q hq)
      have hp := fun p (h : q = some p) => (putA_size (hq.trans h)).2
      have ho := HOF.out
      rw [hq] at ho
      clear HOF
      cases q with
      | none =>
        obtain rfl : o = none := ho
        clear hp hq
        go_enter Tryz.func22, Tryz.ntmps22
        go_wp2_with fail
        refine (readAs_at HB.out tag s fl hs _ HV.out).mono ?_
        rintro e w1 ⟨rfl, hb1⟩
        have HB1 := Lib.hid hb1
        clear hb1
        go_wp2_with fail
        refine (HQ.out _ HB1.out).mono ?_
        rintro e w2 ⟨rfl, hb2⟩
        have HB2 := Lib.hid hb2
        clear hb2
        simp only [Option.getD_none, Option.isSome_none]
        go_wp2_with fail
        go_ret2
        exact ⟨rfl, HB2.out⟩
      | some p =>
        obtain rfl : o = some (tag ++ ⟨#[32]⟩ ++ p) := ho
        have hps := hp p rfl
        clear hp hq
        go_enter Tryz.func22, Tryz.ntmps22
        go_wp2_with fail
        refine (readAs_at HB.out tag s fl hs _ HV.out).mono ?_
        rintro e w1 ⟨rfl, hb1⟩
        have HB1 := Lib.hid hb1
        clear hb1
        go_wp2_with fail
        refine (HQ.out _ HB1.out).mono ?_
        rintro e w2 ⟨rfl, hb2⟩
        have HB2 := Lib.hid hb2
        clear hb2
        simp only [Option.getD_some, Option.isSome_some]
        go_wp2_with fail
        go_ret2
        exact ⟨rfl, HB2.out⟩
    · obtain rfl : o = some s := HOF.out
      clear HOF
      go_enter Tryz.func22, Tryz.ntmps22
      go_wp2_with fail
      refine (readAs_at HB.out tag s fl hs _ HV.out).mono ?_
      rintro e w1 ⟨rfl, hb1⟩
      have HB1 := Lib.hid hb1
      clear hb1
      go_wp2_with fail
      go_ret2
      exact ⟨rfl, HB1.out⟩
end Go.Proofs.YtclgahmgoiobaaaGreatDoor
