/- Splices as plain things: valid ones, what comes of them, where a byte goes, their order. No function of the program. -/
import Derived.Test.YtegamojidckmcaaKeep
namespace Go.Proofs.Ytegamojidckmcaa
open Go.RowKit
set_option linter.unusedVariables false

structure Sp where
  f : Int
  t : Int
  s : ByteArray
theorem sp_ext {x y : Sp} (h1 : x.f = y.f) (h2 : x.t = y.t) (h3 : x.s = y.s) : x = y := by
  cases x; cases y; simp_all
def sp0 : Sp := ⟨0, 0, ⟨#[]⟩⟩
def spAt (l : List Sp) (k : Nat) : Sp := l.getD k sp0
theorem spAt_some {l : List Sp} {k : Nat} (h : k < l.length) : l[k]? = some (spAt l k) := by
  unfold spAt; rw [List.getElem?_eq_getElem h]; simp [List.getD, h]
theorem spAt_mem {l : List Sp} {k : Nat} (h : k < l.length) : spAt l k ∈ l := List.mem_of_getElem? (spAt_some h)
theorem drop_cons {l : List Sp} {k : Nat} (h : k < l.length) : l.drop k = spAt l k :: l.drop (k + 1) := by
  rw [List.drop_eq_getElem_cons h]
  have := spAt_some h
  rw [List.getElem?_eq_getElem h] at this
  injection this with this
  rw [this]
def In64 (x : Sp) : Prop := -9223372036854775808 ≤ x.f ∧ x.f ≤ 9223372036854775807 ∧ -9223372036854775808 ≤ x.t ∧ x.t ≤ 9223372036854775807 ∧ x.s.size ≤ 9223372036854775807
def All64 (l : List Sp) : Prop := ∀ x ∈ l, In64 x

/-! ### Valid -/
def validF (n : Int) : Int → List Sp → Bool
  | _, [] => true
  | e, x :: r => if x.f < e ∨ x.t < x.f ∨ n < x.t then false else validF n x.t r
theorem valid_bad {n e : Int} {x : Sp} {r : List Sp} (h : x.f < e ∨ x.t < x.f ∨ n < x.t) : validF n e (x :: r) = false := by
  unfold validF; rw [if_pos h]
theorem valid_good {n e : Int} {x : Sp} {r : List Sp} (h : ¬ (x.f < e ∨ x.t < x.f ∨ n < x.t)) : validF n e (x :: r) = validF n x.t r := by
  conv => lhs; unfold validF
  rw [if_neg h]
theorem valid_cons {n e : Int} {x : Sp} {r : List Sp} : validF n e (x :: r) = true ↔ e ≤ x.f ∧ x.f ≤ x.t ∧ x.t ≤ n ∧ validF n x.t r = true := by
  by_cases h : x.f < e ∨ x.t < x.f ∨ n < x.t
  · rw [valid_bad h]
    constructor
    · intro h'; cases h'
    · intro h'; omega
  · rw [valid_good h]
    exact ⟨fun h' => ⟨by omega, by omega, by omega, h'⟩, fun h' => h'.2.2.2⟩
theorem valid_mono {n e e' : Int} (h : e' ≤ e) : ∀ {l : List Sp}, validF n e l = true → validF n e' l = true
  | [], _ => rfl
  | x :: r, hv => by rw [valid_cons] at hv ⊢; exact ⟨by omega, hv.2⟩
/-- Each of valid splices. -/
theorem valid_mem {n : Int} : ∀ {l : List Sp} {e : Int}, validF n e l = true → ∀ x ∈ l, e ≤ x.f ∧ x.f ≤ x.t ∧ x.t ≤ n
  | [], _, _, x, h => by cases h
  | y :: r, e, hv, x, h => by
    rw [valid_cons] at hv
    rcases List.mem_cons.1 h with rfl | h
    · exact ⟨hv.1, hv.2.1, hv.2.2.1⟩
    · have := valid_mem hv.2.2.2 x h
      exact ⟨by omega, this.2⟩
theorem valid_drop {n : Int} : ∀ {l : List Sp} {e : Int} (k : Nat), validF n e l = true → validF n e (l.drop k) = true
  | [], e, k, h => by simp; exact h
  | x :: r, e, 0, h => h
  | x :: r, e, k + 1, h => by
    rw [valid_cons] at h
    exact valid_mono (by omega) (valid_drop k h.2.2.2)

/-! ### What comes of splices -/
def grw (x : Sp) : Int := (x.s.size : Int) - (x.t - x.f)
def sumG : List Sp → Int
  | [] => 0
  | x :: r => grw x + sumG r
theorem sumG_append (l m : List Sp) : sumG (l ++ m) = sumG l + sumG m := by
  induction l with
  | nil => simp [sumG]
  | cons x r ih => simp only [List.cons_append, sumG]; omega
theorem sumG_take {l : List Sp} {k : Nat} (h : k < l.length) : sumG (l.take (k + 1)) = sumG (l.take k) + grw (spAt l k) := by
  have e : l.take (k + 1) = l.take k ++ [spAt l k] := by
    rw [List.take_add_one, spAt_some h]; rfl
  rw [e, sumG_append]; simp [sumG]
def doF (zs : List Int) : Nat → List Sp → List Int
  | a, [] => zs.drop a
  | a, x :: r => (zs.drop a).take (x.f.toNat - a) ++ (byt x.s ++ doF zs x.t.toNat r)
theorem doF_nil (zs : List Int) (a : Nat) : doF zs a [] = zs.drop a := rfl
theorem doF_cons (zs : List Int) (a : Nat) (x : Sp) (r : List Sp) : doF zs a (x :: r) = (zs.drop a).take (x.f.toNat - a) ++ (byt x.s ++ doF zs x.t.toNat r) := rfl
theorem do_byte {zs : List Int} (h : Byte zs) : ∀ (l : List Sp) (a : Nat), Byte (doF zs a l)
  | [], a => h.drop a
  | x :: r, a => by unfold doF; exact ((h.drop a).take _).append ((byt_byte _).append (do_byte h r _))
theorem do_len (zs : List Int) : ∀ (l : List Sp) (a : Nat), a ≤ zs.length → validF zs.length a l = true → ((doF zs a l).length : Int) = zs.length - a + sumG l
  | [], a, ha, _ => by simp [doF, sumG]; omega
  | x :: r, a, ha, hv => by
    rw [valid_cons] at hv
    obtain ⟨h1, h2, h3, h4⟩ := hv
    have ht : ((x.t.toNat : Nat) : Int) = x.t := by omega
    have := do_len zs r x.t.toNat (by omega) (by rw [ht]; exact h4)
    simp only [doF, sumG, grw, List.length_append, List.length_take, List.length_drop, byt_len]
    omega
/-- Each splice's growth is bounded, so the sizes are. -/
theorem sumG_bd {n : Int} (M : Int) (hn : 0 ≤ n) (hM : 0 ≤ M) : ∀ {l : List Sp}, (∀ x ∈ l, 0 ≤ x.f ∧ x.f ≤ x.t ∧ x.t ≤ n ∧ (x.s.size : Int) ≤ M) → - (l.length * n) ≤ sumG l ∧ sumG l ≤ l.length * M
  | [], _ => by simp [sumG]
  | x :: r, h => by
    have hx := h x (by simp)
    have := sumG_bd M hn hM (l := r) fun y hy => h y (by simp [hy])
    simp only [sumG, grw, List.length_cons]
    have e1 : (((r.length + 1 : Nat) : Int)) * n = r.length * n + n := by rw [Int.natCast_add, Int.add_mul]; simp
    have e2 : (((r.length + 1 : Nat) : Int)) * M = r.length * M + M := by rw [Int.natCast_add, Int.add_mul]; simp
    rw [e1, e2]
    have : (0 : Int) ≤ x.s.size := by omega
    omega

/-! ### Where a byte goes -/
def mapF (o : Int) : Int → List Sp → Option Int
  | m, [] => some m
  | m, x :: r => if o < x.f then some m else if o < x.t then none else mapF o (m + grw x) r
def refMapF (o : Int) : Int → List Sp → Option Int
  | b, [] => some (o + b)
  | b, x :: r => if x.f ≤ o ∧ o < x.t then none else refMapF o (if x.t ≤ o then b + grw x else b) r
theorem refMap_early {n : Int} (o : Int) : ∀ {l : List Sp} {e : Int} (b : Int), o < e → validF n e l = true → refMapF o b l = some (o + b)
  | [], _, b, _, _ => rfl
  | x :: r, e, b, h, hv => by
    rw [valid_cons] at hv
    unfold refMapF
    rw [if_neg (by omega), if_neg (by omega)]
    exact refMap_early o b (by omega : o < x.t) hv.2.2.2
theorem refMap_eq {n : Int} (o : Int) : ∀ {l : List Sp} {e : Int} (b : Int), validF n e l = true → mapF o (o + b) l = refMapF o b l
  | [], _, b, _ => rfl
  | x :: r, e, b, hv => by
    rw [valid_cons] at hv
    unfold mapF
    by_cases h1 : o < x.f
    · rw [if_pos h1]
      unfold refMapF
      rw [if_neg (by omega), if_neg (by omega)]
      exact (refMap_early o b (by omega : o < x.t) hv.2.2.2).symm
    · rw [if_neg h1]
      unfold refMapF
      by_cases h2 : o < x.t
      · rw [if_pos h2, if_pos ⟨by omega, h2⟩]
      · rw [if_neg h2, if_neg (by omega), if_pos (by omega), Int.add_assoc]
        exact refMap_eq o (b + grw x) hv.2.2.2

/-! ### The cells of splices -/
def spC (x : Sp) : List Value := [.int .i64 x.f, .int .i64 x.t, .string x.s]
def spV (x : Sp) : Value := .agg #[.int .i64 x.f, .int .i64 x.t, .string x.s]
def spsC (l : List Sp) : List Value := l.flatMap spC
theorem spsC_len (l : List Sp) : (spsC l).length = l.length * 3 := by
  induction l with
  | nil => rfl
  | cons x t ih => simp only [spsC, List.flatMap_cons, List.length_append, List.length_cons] at ih ⊢; rw [ih]; simp [spC]; omega
theorem spsC_append (l m : List Sp) : spsC (l ++ m) = spsC l ++ spsC m := by simp [spsC]
theorem spsC_cons (x : Sp) (m : List Sp) : spsC (x :: m) = spC x ++ spsC m := by simp [spsC]
theorem spsC_snoc (l : List Sp) (x : Sp) : spsC (l ++ [x]) = spsC l ++ spC x := by simp [spsC]
theorem spsC_one : ∀ (u : Value) (l : List Sp), u ∈ spsC l → u.oneCell' = true := by
  intro u l h
  simp only [spsC, List.mem_flatMap] at h
  obtain ⟨x, _, hx⟩ := h
  simp [spC] at hx
  rcases hx with rfl | rfl | rfl <;> rfl
theorem spsC_at (l : List Sp) : ∀ k x, l[k]? = some x → (spsC l)[k * 3]? = some (.int .i64 x.f) ∧ (spsC l)[k * 3 + 1]? = some (.int .i64 x.t) ∧ (spsC l)[k * 3 + 2]? = some (.string x.s) := by
  induction l with
  | nil => intro k l h; simp at h
  | cons x t ih =>
    intro k l h
    rw [spsC_cons]
    cases k with
    | zero => simp at h; subst h; exact ⟨rfl, rfl, rfl⟩
    | succ k =>
      simp at h
      have := ih k l h
      have hl : (spC x).length = 3 := rfl
      refine ⟨?_, ?_, ?_⟩
      · rw [List.getElem?_append_right (by omega), hl, show (k + 1) * 3 - 3 = k * 3 by omega]; exact this.1
      · rw [List.getElem?_append_right (by omega), hl, show (k + 1) * 3 + 1 - 3 = k * 3 + 1 by omega]; exact this.2.1
      · rw [List.getElem?_append_right (by omega), hl, show (k + 1) * 3 + 2 - 3 = k * 3 + 2 by omega]; exact this.2.2
def RdS (w : World) (A : Option Addr) (l : List Sp) : Prop := RdC w A (spsC l)
theorem RdS.addr {w : World} {A : Option Addr} {l : List Sp} (h : RdS w A l) (hl : 0 < l.length) : ∃ b off, A = some ⟨b, off, none⟩ ∧ b < w.heap.size ∧ ∀ k, k < l.length →
    w.cell? ⟨b, off + k * 3, none⟩ = some (.int .i64 (spAt l k).f) ∧ w.cell? ⟨b, off + k * 3 + 1, none⟩ = some (.int .i64 (spAt l k).t) ∧ w.cell? ⟨b, off + k * 3 + 2, none⟩ = some (.string (spAt l k).s) := by
  obtain ⟨b, off, e, hc⟩ := RdC.addr h (by rw [spsC_len]; omega)
  have h0 := hc _ _ (spsC_at l 0 _ (spAt_some hl)).1
  refine ⟨b, off, e, World.block_lt_of_cell? _ _ h0, fun k hk => ?_⟩
  obtain ⟨h1, h2, h3⟩ := spsC_at l k _ (spAt_some hk)
  exact ⟨hc _ _ h1, hc _ _ h2, hc _ _ h3⟩
theorem RdS.below {w w' : World} {A : Option Addr} {l : List Sp} (h : RdS w A l) (hb : Below w.heap.size w w') : RdS w' A l := RdC.below h hb
theorem RdS.nil (w : World) (A : Option Addr) : RdS w A [] := RdC.nil w A
theorem RdS.none_ {w : World} {l : List Sp} (h : RdS w none l) : l = [] := by
  have := RdC.none_ h
  have hl := spsC_len l
  rw [this] at hl
  exact List.eq_nil_of_length_eq_zero (by simp at hl; omega)
def NewS (w : World) (l : List Sp) (e : Ending) (w' : World) : Prop :=
  ∃ A n cap, e = .returned (.slice A n cap) ∧ l.length = n ∧ n ≤ cap ∧ cap ≤ 9223372036854775807 ∧ (A = none → cap = 0) ∧ RdS w' A l ∧ Below w.heap.size w w'
theorem cell_kept {w w' : World} {p : Addr} {v : Value} (hb : Below w.heap.size w w') (h : w.cell? p = some v) : w'.cell? p = some v := by
  rw [hb.cell (World.block_lt_of_cell? _ _ h)]; exact h
end Go.Proofs.Ytegamojidckmcaa
