/- Chapter 1 (runes, printable runes, names) as Lean functions on lists of numbers, and what they come to. No program. -/
import Derived.WalkKit
import Derived.Laws.BitsLemmas
namespace Go.Proofs.Ytpmikhhnnjhiaaa
open Go.RowKit

def surr (r : Int) : Bool := decide (55296 ≤ r) && decide (r ≤ 57343)
def prt (r : Int) : Bool :=
  if r = 9 ∨ r = 10 ∨ r = 13 ∨ r = 133 then true else
  if r < 32 ∨ (127 ≤ r ∧ r ≤ 159) then false else
  if r = 65279 ∨ r = 65534 ∨ r = 65535 then false else
  decide (r ≤ 1114111) && !surr r
def spc (c : Int) : Bool := c == 32
def dgt (c : Int) : Bool := decide (48 ≤ c) && decide (c ≤ 57)
def nmb (c : Int) : Bool := (decide (65 ≤ c) && decide (c ≤ 90)) || (decide (97 ≤ c) && decide (c ≤ 122)) || dgt c || c == 45 || c == 95
def ldR (c : Int) : Int := if c < 128 then c else if c < 192 then 0 else if c < 224 then c - 192 else if c < 240 then c - 224 else if c < 248 then c - 240 else 0
def ldN (c : Int) : Int := if c < 128 then 1 else if c < 192 then 0 else if c < 224 then 2 else if c < 240 then 3 else if c < 248 then 4 else 0
def ldL (c : Int) : Int := if c < 128 then 0 else if c < 192 then 0 else if c < 224 then 128 else if c < 240 then 2048 else if c < 248 then 65536 else 0
def cont (c : Int) : Bool := decide (128 ≤ c) && decide (c < 192)

theorem and_all : ∀ c : Fin 256,
    (bits .and .u8 (c.val : Int) 128 == 0) = decide ((c.val : Int) < 128) ∧
    (bits .and .u8 (c.val : Int) 224 == 192) = (decide (192 ≤ (c.val : Int)) && decide ((c.val : Int) < 224)) ∧
    (bits .and .u8 (c.val : Int) 240 == 224) = (decide (224 ≤ (c.val : Int)) && decide ((c.val : Int) < 240)) ∧
    (bits .and .u8 (c.val : Int) 248 == 240) = (decide (240 ≤ (c.val : Int)) && decide ((c.val : Int) < 248)) ∧
    (bits .and .u8 (c.val : Int) 192 == 128) = (decide (128 ≤ (c.val : Int)) && decide ((c.val : Int) < 192)) := by decide +kernel

theorem and_at (c : Int) (h0 : 0 ≤ c) (h1 : c < 256) :
    (bits .and .u8 c 128 == 0) = decide (c < 128) ∧
    (bits .and .u8 c 224 == 192) = (decide (192 ≤ c) && decide (c < 224)) ∧
    (bits .and .u8 c 240 == 224) = (decide (224 ≤ c) && decide (c < 240)) ∧
    (bits .and .u8 c 248 == 240) = (decide (240 ≤ c) && decide (c < 248)) ∧
    (bits .and .u8 c 192 == 128) = (decide (128 ≤ c) && decide (c < 192)) := by
  have h := and_all ⟨c.toNat, by omega⟩
  have e : ((c.toNat : Nat) : Int) = c := by omega
  simpa only [e] using h

theorem and_cont (c : Int) (h0 : 0 ≤ c) (h1 : c < 256) : (bits .and .u8 c 192 == 128) = cont c := (and_at c h0 h1).2.2.2.2

/-- The rest of a rune, byte by byte. -/
def accR : Int → List Int → Option Int
  | r, [] => some r
  | r, c :: l => if cont c then accR (r * 64 + c % 64) l else none

def runeF : List Int → Int × Int × Bool
  | [] => (0, 0, false)
  | c :: t =>
    if ldN c = 0 ∨ ((c :: t).length : Int) < ldN c then (0, 1, false) else
    match accR (ldR c) (t.take (ldN c - 1).toNat) with
    | none => (0, 1, false)
    | some r => if r < ldL c ∨ 1114111 < r ∨ surr r = true then (0, 1, false) else (r, ldN c, true)

theorem accR_snoc (l : List Int) (c : Int) : ∀ r, accR r (l ++ [c]) = match accR r l with | none => none | some q => if cont c then some (q * 64 + c % 64) else none := by
  induction l with
  | nil => intro r; simp only [List.nil_append, accR]
  | cons a l ih => intro r; simp only [List.cons_append, accR]; split <;> simp [ih]

theorem accR_none (l m : List Int) : ∀ r, accR r l = none → accR r (l ++ m) = none := by
  induction l with
  | nil => intro r h; simp [accR] at h
  | cons a l ih => intro r h; simp only [List.cons_append, accR] at h ⊢; split <;> simp_all

theorem accR_bd (l : List Int) : ∀ r q, 0 ≤ r → accR r l = some q → 0 ≤ q ∧ q < (r + 1) * 64 ^ l.length := by
  induction l with
  | nil => intro r q h0 h; simp only [accR, Option.some.injEq] at h; subst h; simp; omega
  | cons a l ih =>
    intro r q h0 h
    simp only [accR] at h
    split at h
    · obtain ⟨h1, h2⟩ := ih _ _ (by omega) h
      refine ⟨h1, ?_⟩
      have e : (r * 64 + a % 64 + 1) * 64 ^ l.length ≤ ((r + 1) * 64) * 64 ^ l.length := Int.mul_le_mul_of_nonneg_right (by omega) (Int.pow_nonneg (by omega))
      have e2 : (r + 1) * 64 ^ (a :: l).length = ((r + 1) * 64) * 64 ^ l.length := by rw [List.length_cons, Int.pow_succ']; rw [Int.mul_assoc]
      omega
    · cases h

theorem accR_lo (l : List Int) : ∀ r q, accR r l = some q → r * 64 ^ l.length ≤ q := by
  induction l with
  | nil => intro r q h; simp only [accR, Option.some.injEq] at h; subst h; simp
  | cons a l ih =>
    intro r q h
    simp only [accR] at h
    split at h
    · have h1 := ih _ _ h
      have e : (r * 64) * 64 ^ l.length ≤ (r * 64 + a % 64) * 64 ^ l.length := Int.mul_le_mul_of_nonneg_right (by omega) (Int.pow_nonneg (by omega))
      have e2 : r * 64 ^ (a :: l).length = (r * 64) * 64 ^ l.length := by rw [List.length_cons, Int.pow_succ']; rw [Int.mul_assoc]
      omega
    · cases h

theorem ldN_cases (c : Int) : ldN c = 0 ∨ ldN c = 1 ∨ ldN c = 2 ∨ ldN c = 3 ∨ ldN c = 4 := by unfold ldN; split <;> (try split) <;> (try split) <;> (try split) <;> (try split) <;> simp
theorem ldR_bd (c : Int) (h0 : 0 ≤ c) : 0 ≤ ldR c ∧ ldR c < 128 ∧ (ldN c = 2 → ldR c < 32) ∧ (ldN c = 3 → ldR c < 16) ∧ (ldN c = 4 → ldR c < 8) := by
  unfold ldR ldN; split <;> (try split) <;> (try split) <;> (try split) <;> (try split) <;> omega

/-- While bytes are still to come the rune has room for them. -/
theorem acc_room (c : Int) (h0 : 0 ≤ c) (l : List Int) (q : Int) (h : accR (ldR c) l = some q) (hl : (l.length : Int) + 1 < ldN c) : 0 ≤ q ∧ q < 32768 := by
  obtain ⟨h1, h2⟩ := accR_bd l _ _ (ldR_bd c h0).1 h
  have hb := ldR_bd c h0
  refine ⟨h1, ?_⟩
  rcases ldN_cases c with e | e | e | e | e <;> rw [e] at hl
  · omega
  · omega
  · have : l.length = 0 := by omega
    rw [this] at h2; simp at h2; omega
  · have : l.length = 0 ∨ l.length = 1 := by omega
    rcases this with k | k <;> rw [k] at h2 <;> simp at h2 <;> omega
  · have : l.length = 0 ∨ l.length = 1 ∨ l.length = 2 := by omega
    rcases this with k | k | k <;> rw [k] at h2 <;> simp at h2 <;> omega

theorem acc_bd (c : Int) (h0 : 0 ≤ c) (l : List Int) (q : Int) (h : accR (ldR c) l = some q) (hl : (l.length : Int) < ldN c) : 0 ≤ q ∧ q < 2097152 := by
  obtain ⟨h1, h2⟩ := accR_bd l _ _ (ldR_bd c h0).1 h
  have hb := ldR_bd c h0
  refine ⟨h1, ?_⟩
  rcases ldN_cases c with e | e | e | e | e <;> rw [e] at hl
  · omega
  · have : l.length = 0 := by omega
    rw [this] at h2; simp at h2; omega
  · have : l.length = 0 ∨ l.length = 1 := by omega
    rcases this with k | k <;> rw [k] at h2 <;> simp at h2 <;> omega
  · have : l.length = 0 ∨ l.length = 1 ∨ l.length = 2 := by omega
    rcases this with k | k | k <;> rw [k] at h2 <;> simp at h2 <;> omega
  · have : l.length = 0 ∨ l.length = 1 ∨ l.length = 2 ∨ l.length = 3 := by omega
    rcases this with k | k | k | k <;> rw [k] at h2 <;> simp at h2 <;> omega

end Go.Proofs.Ytpmikhhnnjhiaaa
