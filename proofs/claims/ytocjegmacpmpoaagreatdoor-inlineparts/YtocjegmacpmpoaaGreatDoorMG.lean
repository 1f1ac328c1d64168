/- Chapter 9 (a text as a scalar) as Lean functions, and facts on them. No program. -/
import Derived.Test.YtocjegmacpmpoaaGreatDoorMB
import Derived.Test.YtocjegmacpmpoaaGreatDoorMC
import Derived.Test.YtocjegmacpmpoaaGreatDoorMD
set_option linter.unusedSimpArgs false
set_option linter.unusedVariables false
/-! ### StPure -/
namespace Go.Proofs.YtocjegmacpmpoaaGreatDoor
open Go.RowKit
set_option linter.unusedVariables false
set_option maxRecDepth 100000

def strT : ByteArray := ⟨#[33, 33, 115, 116, 114]⟩
/-- A text that is read as that text, with that tag, where it stands as it is. -/
def readF (tag s : ByteArray) (fl : Bool) : Bool := validF (byt s) fl && (resF s.toList == tag.toList)
/-- A text in double quotes. -/
def putA (s : ByteArray) : Option ByteArray := (putD (byt s)).map strOfNums
def chooseF (s : ByteArray) (fl : Bool) : ByteArray := if readF strT s fl = true then s else (putA s).getD ⟨#[]⟩
def keyOf (c : ByteArray) : Option ByteArray := if c.size = 0 then none else if 128 < c.size then none else some c
def someF (c : ByteArray) : Option ByteArray := if c.size = 0 then none else some c
def bestF (tag s : ByteArray) (fl : Bool) : Option ByteArray :=
  if tag = strT then someF (chooseF s fl) else if readF tag s fl = true then some s else (putA s).map fun p => tag ++ ⟨#[32]⟩ ++ p

theorem size_nil {c : ByteArray} (h : c.size = 0) : c = ⟨#[]⟩ := byt_inj (by
  have : (byt c).length = 0 := by rw [byt_len]; exact h
  rw [List.eq_nil_of_length_eq_zero this]; rfl)
theorem putA_some {s p : ByteArray} (h : putA s = some p) : putD (byt s) = some (byt p) := by
  unfold putA at h
  cases hq : putD (byt s) with
  | none => rw [hq] at h; cases h
  | some l =>
    rw [hq] at h
    simp only [Option.map_some, Option.some.injEq] at h
    rw [← h, byt_strOfNums]
    obtain ⟨rs, rfl, hr⟩ := fine_put (byt_byte s) hq
    intro z hz
    obtain ⟨r, hm, hz⟩ := List.mem_flatMap.1 hz
    exact utfF_byte (hr r hm).1 z hz
theorem putA_none {s : ByteArray} : putA s = none ↔ putD (byt s) = none := by
  unfold putA
  cases putD (byt s) <;> simp
theorem putA_size {s p : ByteArray} (h : putA s = some p) : 2 ≤ p.size ∧ p.size ≤ 10 * s.size + 2 := by
  have := put_size (byt_byte s) (putA_some h)
  rw [byt_len, byt_len] at this
  exact this
theorem choose_size (s : ByteArray) (fl : Bool) : (chooseF s fl).size ≤ 10 * s.size + 2 := by
  unfold chooseF
  split
  · omega
  · cases h : putA s with
    | none => exact Nat.zero_le _
    | some p => exact (putA_size h).2

/-! ### Quotes: a text in quotes has two more of them -/
theorem count_rune (r : Int) (hok : okR r = true) : (utfF r).count 34 ≤ (wrF r).count 34 := by
  by_cases h : r = 34
  · subst h; decide +kernel
  · have e : (utfF r).count 34 = 0 := by
      apply List.count_eq_zero.2
      intro hm
      by_cases hr : r < 128
      · unfold utfF at hm
        rw [if_pos hr] at hm
        simp only [List.mem_singleton] at hm
        exact h hm.symm
      · have := utfF_hi (by omega) (okR_parts hok).2.1 34 hm
        omega
    rw [e]; exact Nat.zero_le _
theorem count_pq : ∀ (n : Nat) (zs y : List Int), zs.length ≤ n → Byte zs → pq zs = some y → zs.count 34 ≤ y.count 34 := by
  intro n
  induction n with
  | zero =>
    intro zs y hl hb hp
    have : zs = [] := List.eq_nil_of_length_eq_zero (by omega)
    subst this
    exact Nat.zero_le _
  | succ n ih =>
    intro zs y hl hb hp
    by_cases hz : zs = []
    · subst hz; exact Nat.zero_le _
    rcases hf : runeF zs with ⟨r, j, ok⟩
    cases ok
    · rw [pq_bad zs hz r j hf] at hp; cases hp
    · rw [pq_good zs hz r j hf] at hp
      obtain ⟨hok, hj1, hj2, hu⟩ := utf_runeF zs hb r j hf
      cases hq : pq (zs.drop j.toNat) with
      | none => rw [hq] at hp; cases hp
      | some y2 =>
        rw [hq] at hp
        simp only [Option.map_some, Option.some.injEq] at hp
        subst hp
        have h1 := ih _ y2 (by rw [List.length_drop]; omega) (hb.drop _) hq
        have h2 := count_rune r hok
        rw [hu] at h2
        rw [List.count_append, ← List.take_append_drop j.toNat zs, List.count_append]
        omega
theorem put_other {zs p : List Int} (hb : Byte zs) (h : putD zs = some p) : p ≠ zs := by
  rintro rfl
  obtain ⟨y, hy, e⟩ := put_some h
  have h1 := count_pq _ p y (Nat.le_refl _) hb hy
  have h2 : p.count 34 = y.count 34 + 2 := by
    rw [e]; simp
  omega

/-! ### What is chosen -/
theorem choose_nil {s : ByteArray} {fl : Bool} (h : (chooseF s fl).size = 0) : readF strT s fl = false ∧ putA s = none := by
  unfold chooseF at h
  split at h
  · rename_i hr
    unfold readF validF at hr
    rw [byt_len, h] at hr
    simp at hr
  · rename_i hr
    refine ⟨by simpa using hr, ?_⟩
    cases hp : putA s with
    | none => rfl
    | some p =>
      rw [hp] at h
      have := (putA_size hp).1
      simp only [Option.getD_some] at h
      omega
theorem choose_self {s : ByteArray} {fl : Bool} (h0 : (chooseF s fl).size ≠ 0) (h : chooseF s fl = s) : readF strT s fl = true := by
  cases hr : readF strT s fl with
  | true => rfl
  | false =>
    unfold chooseF at h h0
    rw [hr] at h h0
    simp only [Bool.false_eq_true, if_false] at h h0
    cases hp : putA s with
    | none => rw [hp] at h0; exact absurd rfl h0
    | some p =>
      rw [hp] at h
      simp only [Option.getD_some] at h
      subst h
      exact absurd rfl (put_other (byt_byte _) (putA_some hp))
theorem choose_take {s : ByteArray} {fl : Bool} (h0 : (chooseF s fl).size ≠ 0) (h : chooseF s fl ≠ s) : readF strT s fl = false ∧ takeD (byt (chooseF s fl)) = some (byt s, (chooseF s fl).size) := by
  cases hr : readF strT s fl with
  | true => exact absurd (by unfold chooseF; rw [if_pos hr]) h
  | false =>
    refine ⟨rfl, ?_⟩
    unfold chooseF at h h0 ⊢
    rw [hr] at h h0 ⊢
    simp only [Bool.false_eq_true, if_false] at h h0 ⊢
    cases hp : putA s with
    | none => rw [hp] at h0; exact absurd rfl h0
    | some p =>
      have := take_put (byt_byte s) (putA_some hp) []
      rw [List.append_nil] at this
      simp only [Option.getD_some]
      rw [this, byt_len]
theorem choose_wakes : chooseF ⟨#[116, 114, 117, 101]⟩ false = ⟨#[34, 116, 114, 117, 101, 34]⟩ ∧ chooseF ⟨#[97]⟩ true = ⟨#[97]⟩ := by
  have l1 : (⟨#[116, 114, 117, 101]⟩ : ByteArray).toList = [116, 114, 117, 101] := mk_list [116, 114, 117, 101]
  have l2 : (⟨#[97]⟩ : ByteArray).toList = [97] := mk_list [97]
  have l3 : strT.toList = [33, 33, 115, 116, 114] := mk_list [33, 33, 115, 116, 114]
  constructor
  · unfold chooseF readF
    rw [l1, l3]
    decide +kernel
  · unfold chooseF readF
    rw [l2, l3]
    decide +kernel
end Go.Proofs.YtocjegmacpmpoaaGreatDoor
