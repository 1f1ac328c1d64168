/- What valid splices do: one by one; where each byte goes; back again. Plain facts. -/
import Derived.Test.YtegamojidckmcaaSpOpen
namespace Go.Proofs.Ytegamojidckmcaa
open Go.RowKit
set_option linter.unusedVariables false

theorem small_sum {n : Nat} {r : List Sp} (hn : n ≤ 100) (hr : r.length ≤ 6) (ht : ∀ x ∈ r, x.s.size ≤ 20) (hv : validF n 0 r = true) (k : Nat) : -600 ≤ sumG (r.take k) ∧ sumG (r.take k) ≤ 120 := by
  have h := sumG_bd (n := (n : Int)) 20 (by omega) (by omega) (l := r.take k) fun x hx => by
    have h1 := valid_mem hv x (List.mem_of_mem_take hx)
    have h2 := ht x (List.mem_of_mem_take hx)
    exact ⟨h1.1, h1.2.1, h1.2.2, by omega⟩
  have h3 : (r.take k).length ≤ 6 := by rw [List.length_take]; omega
  have h4 : ((r.take k).length : Int) * n ≤ 6 * 100 := by
    have := Nat.mul_le_mul h3 hn
    rw [← Int.natCast_mul]; omega
  omega
theorem sum_drop (r : List Sp) (k : Nat) : sumG (r.drop k) = sumG r - sumG (r.take k) := by
  have := sumG_append (r.take k) (r.drop k)
  rw [List.take_append_drop] at this
  omega

/-! ### One by one -/
theorem do_from (zs : List Int) : ∀ (l : List Sp) (a t : Nat), a ≤ t → t ≤ zs.length → validF zs.length t l = true → doF zs a l = (zs.drop a).take (t - a) ++ doF zs t l
  | [], a, t, h1, h2, _ => by
    simp only [doF]
    have : zs.drop t = (zs.drop a).drop (t - a) := by rw [List.drop_drop]; congr 1; omega
    rw [this, List.take_append_drop]
  | x :: r, a, t, h1, h2, hv => by
    rw [valid_cons] at hv
    simp only [doF]
    rw [← List.append_assoc, ← List.append_assoc, ← List.append_assoc]
    congr 2
    have e1 : x.f.toNat - a = (t - a) + (x.f.toNat - t) := by omega
    rw [e1, List.take_add, List.drop_drop]
    congr 3
    omega
theorem do_one (zs : List Int) (x : Sp) (l : List Sp) (hv : validF zs.length 0 (x :: l) = true) : doF (doF zs 0 l) 0 [x] = doF zs 0 (x :: l) := by
  rw [valid_cons] at hv
  obtain ⟨h1, h2, h3, h4⟩ := hv
  have ht : ((x.t.toNat : Nat) : Int) = x.t := by omega
  have hz := do_from zs l 0 x.t.toNat (by omega) (by omega) (by rw [ht]; exact h4)
  simp only [Nat.sub_zero, List.drop_zero] at hz
  have hl : (zs.take x.t.toNat).length = x.t.toNat := by simp; omega
  have e1 : (doF zs 0 l).take x.f.toNat = zs.take x.f.toNat := by
    rw [hz, List.take_append_of_le_length (by rw [hl]; omega), List.take_take, Nat.min_eq_left (by omega)]
  have e2 : (doF zs 0 l).drop x.t.toNat = doF zs x.t.toNat l := by
    rw [hz, List.drop_append_of_le_length (by rw [hl]; omega), List.drop_of_length_le (by rw [hl]; omega), List.nil_append]
  simp only [doF, List.drop_zero, Nat.sub_zero, e1, e2]

/-! ### Where each byte goes -/
theorem map_none {n : Int} (o : Int) : ∀ {l : List Sp} {e : Int} (m : Int), validF n e l = true → (mapF o m l = none ↔ ∃ x ∈ l, x.f ≤ o ∧ o < x.t)
  | [], e, m, _ => by simp [mapF]
  | x :: r, e, m, hv => by
    have hv' := hv
    rw [valid_cons] at hv
    unfold mapF
    by_cases h1 : o < x.f
    · rw [if_pos h1]
      constructor
      · intro h; cases h
      · rintro ⟨y, hy, h2, h3⟩
        rcases List.mem_cons.1 hy with rfl | hy
        · omega
        · have := valid_mem hv.2.2.2 y hy; omega
    · rw [if_neg h1]
      by_cases h2 : o < x.t
      · rw [if_pos h2]
        exact ⟨fun _ => ⟨x, by simp, by omega, h2⟩, fun _ => rfl⟩
      · rw [if_neg h2, map_none o _ hv.2.2.2]
        constructor
        · rintro ⟨y, hy, h⟩; exact ⟨y, by simp [hy], h⟩
        · rintro ⟨y, hy, h⟩
          rcases List.mem_cons.1 hy with rfl | hy
          · omega
          · exact ⟨y, hy, h⟩
theorem map_low {n : Int} (o : Int) : ∀ {l : List Sp} {a : Int} (c p : Int), validF n a l = true → a ≤ o → mapF o (o + c) l = some p → a + c ≤ p
  | [], a, c, p, _, ha, h => by simp [mapF] at h; omega
  | x :: r, a, c, p, hv, ha, h => by
    rw [valid_cons] at hv
    unfold mapF at h
    by_cases h1 : o < x.f
    · rw [if_pos h1] at h; injection h; omega
    · rw [if_neg h1] at h
      by_cases h2 : o < x.t
      · rw [if_pos h2] at h; cases h
      · rw [if_neg h2, Int.add_assoc] at h
        have := map_low o (c + grw x) p hv.2.2.2 (by omega) h
        unfold grw at this
        omega
theorem map_mono {n : Int} (i j : Int) (hij : i < j) : ∀ {l : List Sp} {a : Int} (c p q : Int), validF n a l = true → a ≤ i → mapF i (i + c) l = some p → mapF j (j + c) l = some q → p < q
  | [], a, c, p, q, _, ha, h, h' => by simp [mapF] at h h'; omega
  | x :: r, a, c, p, q, hv, ha, h, h' => by
    rw [valid_cons] at hv
    unfold mapF at h h'
    by_cases h1 : i < x.f
    · rw [if_pos h1] at h
      injection h with h
      by_cases h2 : j < x.f
      · rw [if_pos h2] at h'; injection h'; omega
      · rw [if_neg h2] at h'
        by_cases h3 : j < x.t
        · rw [if_pos h3] at h'; cases h'
        · rw [if_neg h3, Int.add_assoc] at h'
          have := map_low j (c + grw x) q hv.2.2.2 (by omega) h'
          unfold grw at this
          omega
    · rw [if_neg h1] at h
      rw [if_neg (by omega)] at h'
      by_cases h3 : i < x.t
      · rw [if_pos h3] at h; cases h
      · rw [if_neg h3, Int.add_assoc] at h
        rw [if_neg (by omega), Int.add_assoc] at h'
        exact map_mono i j hij (c + grw x) p q hv.2.2.2 (by omega) h h'
theorem map_at (zs : List Int) (o : Nat) (ho : o < zs.length) : ∀ (l : List Sp) (a : Nat) (m p : Int), validF zs.length a l = true → a ≤ o → mapF o m l = some p →
    ∃ j : Nat, (j : Int) = p - m + o - a ∧ (doF zs a l)[j]? = some (zs.getD o 0)
  | [], a, m, p, _, ha, h => by
    simp [mapF] at h
    refine ⟨o - a, by omega, ?_⟩
    simp only [doF, List.getElem?_drop]
    rw [show a + (o - a) = o by omega]; exact getD_at ho
  | x :: r, a, m, p, hv, ha, h => by
    rw [valid_cons] at hv
    obtain ⟨v1, v2, v3, v4⟩ := hv
    unfold mapF at h
    have hl : (List.take (x.f.toNat - a) (List.drop a zs)).length = x.f.toNat - a := by simp; omega
    by_cases h1 : (o : Int) < x.f
    · rw [if_pos h1] at h; injection h with h
      refine ⟨o - a, by omega, ?_⟩
      simp only [doF]
      rw [List.getElem?_append_left (by rw [hl]; omega), List.getElem?_take, if_pos (by omega), List.getElem?_drop, show a + (o - a) = o by omega]
      exact getD_at ho
    · rw [if_neg h1] at h
      by_cases h2 : (o : Int) < x.t
      · rw [if_pos h2] at h; cases h
      · rw [if_neg h2] at h
        have ht : ((x.t.toNat : Nat) : Int) = x.t := by omega
        obtain ⟨j, hj, hat⟩ := map_at zs o ho r x.t.toNat (m + grw x) p (by rw [ht]; exact v4) (by omega) h
        unfold grw at hj
        refine ⟨(x.f.toNat - a) + (x.s.size + j), by omega, ?_⟩
        simp only [doF]
        rw [List.getElem?_append_right (by rw [hl]; omega), hl, show x.f.toNat - a + (x.s.size + j) - (x.f.toNat - a) = x.s.size + j by omega,
          List.getElem?_append_right (by rw [byt_len]; omega), byt_len, show x.s.size + j - x.s.size = j by omega]
        exact hat

/-! ### Back again -/
def backF (zs : List Int) : Int → List Sp → List Sp
  | _, [] => []
  | c, x :: r => ⟨x.f + c, x.f + c + x.s.size, strOfNums ((zs.drop x.f.toNat).take (x.t.toNat - x.f.toNat))⟩ :: backF zs (c + grw x) r
theorem back_valid (zs : List Int) : ∀ (l : List Sp) (a : Nat) (c : Int) (N : Int), a ≤ zs.length → validF zs.length a l = true → N = zs.length + c + sumG l → validF N (a + c) (backF zs c l) = true
  | [], _, _, _, _, _, _ => rfl
  | x :: r, a, c, N, ha, hv, hN => by
    rw [valid_cons] at hv
    obtain ⟨v1, v2, v3, v4⟩ := hv
    have ht : ((x.t.toNat : Nat) : Int) = x.t := by omega
    have hd := do_len zs r x.t.toNat (by omega) (by rw [ht]; exact v4)
    simp only [backF, valid_cons]
    simp only [sumG, grw] at hN
    refine ⟨by omega, by omega, by omega, ?_⟩
    have := back_valid zs r x.t.toNat (c + grw x) N (by omega) (by rw [ht]; exact v4) (by unfold grw; omega)
    rw [ht] at this
    unfold grw at this ⊢
    rw [show x.f + c + (x.s.size : Int) = x.t + (c + ((x.s.size : Int) - (x.t - x.f))) by omega]
    exact this
theorem back_do (zs : List Int) (hb : Byte zs) (out : List Int) : ∀ (l : List Sp) (a A : Nat) (c : Int), a ≤ zs.length → validF zs.length a l = true → (A : Int) = a + c → out.drop A = doF zs a l → doF out A (backF zs c l) = zs.drop a
  | [], a, A, c, _, _, _, h => h
  | x :: r, a, A, c, ha, hv, hA, h => by
    rw [valid_cons] at hv
    obtain ⟨v1, v2, v3, v4⟩ := hv
    have ht : ((x.t.toNat : Nat) : Int) = x.t := by omega
    have hl : (List.take (x.f.toNat - a) (List.drop a zs)).length = x.f.toNat - a := by simp; omega
    simp only [backF, doF]
    simp only [doF] at h
    have e1 : (x.f + c).toNat - A = x.f.toNat - a := by omega
    rw [e1, h, List.take_append_of_le_length (by rw [hl]; omega), List.take_of_length_le (by rw [hl]; omega), byt_strOfNums _ ((hb.drop _).take _)]
    have e2 : (x.f + c + (x.s.size : Int)).toNat = A + (x.f.toNat - a + x.s.size) := by omega
    have hdr : out.drop (A + (x.f.toNat - a + x.s.size)) = doF zs x.t.toNat r := by
      rw [← List.drop_drop, h, ← List.append_assoc, List.drop_append_of_le_length (by simp [byt_len]; omega), List.drop_of_length_le (by simp [byt_len]; omega)]
      simp
    rw [e2, back_do zs hb out r x.t.toNat _ (c + grw x) (by omega) (by rw [ht]; exact v4) (by unfold grw; omega) hdr]
    have e3 : x.t.toNat - x.f.toNat = x.t.toNat - x.f.toNat := rfl
    have h2 : (zs.drop x.f.toNat).take (x.t.toNat - x.f.toNat) ++ zs.drop x.t.toNat = zs.drop x.f.toNat := by
      have : zs.drop x.t.toNat = (zs.drop x.f.toNat).drop (x.t.toNat - x.f.toNat) := by rw [List.drop_drop]; congr 1; omega
      rw [this, List.take_append_drop]
    rw [h2]
    have : zs.drop x.f.toNat = (zs.drop a).drop (x.f.toNat - a) := by rw [List.drop_drop]; congr 1; omega
    rw [this, List.take_append_drop]
theorem back_len (zs : List Int) : ∀ (l : List Sp) (c : Int), (backF zs c l).length = l.length
  | [], _ => rfl
  | x :: r, c => by simp [backF, back_len zs r]
theorem back_snoc (zs : List Int) : ∀ (l : List Sp) (c : Int) (x : Sp), backF zs c (l ++ [x]) = backF zs c l ++ [⟨x.f + (c + sumG l), x.f + (c + sumG l) + x.s.size, strOfNums ((zs.drop x.f.toNat).take (x.t.toNat - x.f.toNat))⟩]
  | [], c, x => by simp [backF, sumG]
  | y :: r, c, x => by
    simp only [List.cons_append, backF, sumG]
    rw [back_snoc zs r, Int.add_assoc c (grw y)]
end Go.Proofs.Ytegamojidckmcaa
