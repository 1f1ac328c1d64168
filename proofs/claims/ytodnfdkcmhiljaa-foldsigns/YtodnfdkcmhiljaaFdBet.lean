/- fold's leaves on texts: strings.Repeat of a break, strings.Join by breaks, indented, between, ending. -/
import Derived.Test.YtodnfdkcmhiljaaShelf
import Derived.Test.YtodnfdkcmhiljaaFdWith
import Derived.Lib.Hide
namespace Go.Proofs.Ytodnfdkcmhiljaa
open Go.RowKit
set_option linter.unusedVariables false

/-- A text is handed back that has these bytes. -/
def TxtP (z : List Int) (w : World) (e : Ending) (w' : World) : Prop := ∃ s : ByteArray, byt s = z ∧ e = .returned (.string s) ∧ Below w.heap.size w w'
theorem byt_arr (l : List UInt8) : byt ⟨l.toArray⟩ = l.map fun c => (c.toNat : Int) := by simp [byt]
theorem byt_repeat (k : Nat) : byt ⟨(Lib.repeatL [10] k).toArray⟩ = brs k := by
  rw [byt_arr]
  induction k with
  | zero => rfl
  | succ k ih => simp only [Lib.repeatL, List.map_append, ih]; simp [brs, List.replicate_succ]
theorem repeat_any (k : Nat) (hk : k ≤ 1000000) (w : World) : Calls Try.prog 48 #[.string ⟨#[10]⟩, .int .i64 (k : Int)] w (TxtP (brs k) w) :=
  (Try.strings_Repeat ⟨#[10]⟩ k w (by omega) (by simp [ByteArray.size]; omega)).mono fun e w' ⟨he, hb⟩ => ⟨_, byt_repeat k, he, hb⟩
theorem repeat_int (v : Int) (k : Nat) (hv : v = (k : Int)) (hk : k ≤ 1000000) (w : World) : Calls Try.prog 48 #[.string ⟨#[10]⟩, .int .i64 v] w (TxtP (brs k) w) := by
  subst hv; exact repeat_any k hk w
theorem byt_joinTail (l : List ByteArray) : (Lib.joinTail [10] (l.map (·.data.toList))).map (fun c => (c.toNat : Int)) = joinT (l.map byt) := by
  induction l with
  | nil => rfl
  | cons s t ih =>
    simp only [Lib.joinTail, List.map_cons, List.flatten_cons, List.map_append, joinT] at ih ⊢
    rw [ih]
    simp [byt]
theorem byt_join (l : List ByteArray) : byt ⟨(Lib.join (l.map (·.data.toList)) [10]).toArray⟩ = joinF (l.map byt) := by
  rw [byt_arr]
  cases l with
  | nil => rfl
  | cons s t =>
    simp only [List.map_cons, Lib.join_cons, List.map_append, joinF]
    rw [byt_joinTail]
    rfl
theorem joinT_len (m : Nat) : ∀ l : List (List Int), (∀ r ∈ l, r.length ≤ m) → (joinT l).length ≤ l.length * (m + 1) := by
  intro l
  induction l with
  | nil => intro _; simp [joinT]
  | cons r t ih =>
    intro h
    have h1 := h r (by simp)
    have h2 := ih (fun x hx => h x (by simp [hx]))
    simp only [joinT, List.length_cons, List.length_append, Nat.succ_mul]
    omega
theorem joinF_len (m : Nat) (l : List (List Int)) (h : ∀ r ∈ l, r.length ≤ m) : (joinF l).length ≤ l.length * (m + 1) := by
  cases l with
  | nil => simp [joinF]
  | cons r t =>
    have h1 := h r (by simp)
    have h2 := joinT_len m t (fun x hx => h x (by simp [hx]))
    simp only [joinF, List.length_cons, List.length_append, Nat.succ_mul]
    omega
theorem join_any (A : Option Addr) (n c : Nat) (l : List ByteArray) (w : World) (hl : l.length = n) (hnc : n ≤ c) (hn : n ≤ 1000) (hs : ∀ s ∈ l, s.size ≤ 1000) (hr : RdC w A (l.map Value.string)) :
    Calls Try.prog 29 #[.slice A n c, .string ⟨#[10]⟩] w (TxtP (joinF (l.map byt)) w) := by
  subst hl
  by_cases h0 : 0 < l.length
  · obtain ⟨b, off, rfl, hc⟩ := hr.addr (by simpa using h0)
    have hx : ∀ (j : Nat) x, l[j]? = some x → w.cell? ⟨b, off + j, none⟩ = some (.string x) := fun j x hj => hc j _ (by simp [hj])
    refine (Try.strings_Join b off c l ⟨#[10]⟩ w hx ?_ (by omega) hnc ?_).mono fun e w' ⟨he, hb⟩ => ⟨_, byt_join l, he, hb⟩
    · exact World.block_lt_of_cell? _ _ (hx 0 (l[0]) (by simp [h0]))
    · have h1 := joinF_len 1000 (l.map byt) (by intro r hr'; simp at hr'; obtain ⟨s, h1, rfl⟩ := hr'; rw [byt_len]; exact hs s h1)
      rw [← byt_join, byt_len, List.length_map] at h1
      simp only [ByteArray.size, List.size_toArray] at h1
      have : l.length * (1000 + 1) ≤ 1000 * 1001 := Nat.mul_le_mul hn (Nat.le_refl _)
      exact Nat.le_trans h1 (by omega)
  · have : l = [] := by cases l with | nil => rfl | cons a t => simp at h0
    subst this
    exact (Try.strings_Join_none A c _ w).mono fun e w' ⟨he, hw⟩ => ⟨_, rfl, he, hw ▸ Below.refl _ _⟩

theorem empty_or (s : ByteArray) : (s = ⟨#[]⟩ ∧ byt s = []) ∨ (0 < s.size ∧ byt s ≠ [] ∧ (s.toList == ([] : List UInt8)) = false) := by
  by_cases h : s.size = 0
  · left
    have : s = ⟨#[]⟩ := by
      apply byt_inj
      have : (byt s).length = 0 := by rw [byt_len]; exact h
      rw [List.eq_nil_of_length_eq_zero this]; rfl
    exact ⟨this, by rw [this]; rfl⟩
  · right
    refine ⟨by omega, fun h' => h (by rw [← byt_len, h']; rfl), ?_⟩
    apply beq_eq_false_iff_ne.2
    intro h'
    apply h
    rw [Lib.toList_data] at h'
    simp [ByteArray.size, Array.size, h']

set_option maxHeartbeats 1000000 in
theorem indented_any (s : ByteArray) (hs : 0 < s.size) (w : World) (v : Bool) (hv : deep (byt s) = v) :
    Calls Try.prog 54 #[.string s] w fun e w' => e = .returned (.bool v) ∧ w = w' := by
  have h0 := byt_at s 0 hs
  have hd : (byt s).getD 0 0 = (s[0].toNat : Int) := by simp [List.getD, h0]
  unfold deep at hv
  rw [hd] at hv
  have HV := Lib.hid hv
  clear hv hd h0
  go_enter Try.func54, Try.ntmps54
  go_wp2
  · go_ret
    refine ⟨ret_bool ?_, rfl⟩
    rw [← HV.out, ‹(s[0].toNat : Int) = 9›]; rfl
  · go_ret
    exact ⟨ret_bool HV.out, rfl⟩

set_option maxHeartbeats 1000000 in
theorem between_any (a b : ByteArray) (k : Nat) (hk : k ≤ 100000) (hb : 0 < b.size) (w : World) :
    Calls Try.prog 45 #[.string a, .string b, .int .i64 (k : Int)] w (TxtP (betw (byt a) (byt b) k) w) := by
  rcases empty_or a with ⟨rfl, ha⟩ | ⟨ha, hne, he⟩
  · have hz : betw (byt ⟨#[]⟩) (byt b) k = brs k := by unfold betw; rw [ha, if_pos rfl]
    rw [hz]
    clear ha hz
    go_enter Try.func45, Try.ntmps45
    go_wp2_with (go_at_call 48; refine (repeat_any k (by omega) w).mono ?_; rintro e w' ⟨s, hs, rfl, hb⟩)
    go_ret
    exact ⟨s, hs, rfl, hb⟩
  · unfold betw
    rw [if_neg hne]
    clear hne
    cases hda : deep (byt a) with
    | true =>
      simp only [Bool.true_or, if_true]
      go_enter Try.func45, Try.ntmps45
      go_wp2_with (first
        | (go_at_call 48; refine (repeat_int _ (k + 1) (by omega) (by omega) w).mono ?_; rintro e w' ⟨s, hs, rfl, hb⟩)
        | (go_at_call 54; refine (indented_any _ (by assumption) w _ (by assumption)).mono ?_; rintro e w' ⟨rfl, rfl⟩))
      go_ret
      exact ⟨s, hs, rfl, hb⟩
    | false =>
      cases hdb : deep (byt b) with
      | true =>
        simp only [Bool.or_true, if_true]
        go_enter Try.func45, Try.ntmps45
        go_wp2_with (first
          | (go_at_call 48; refine (repeat_int _ (k + 1) (by omega) (by omega) w).mono ?_; rintro e w' ⟨s, hs, rfl, hb⟩)
          | (go_at_call 54; refine (indented_any _ (by assumption) w _ (by assumption)).mono ?_; rintro e w' ⟨rfl, rfl⟩))
        go_ret
        exact ⟨s, hs, rfl, hb⟩
      | false =>
        simp only [Bool.or_false, Bool.false_eq_true, if_false]
        by_cases h0 : k = 0
        · subst h0
          simp only [if_true]
          go_enter Try.func45, Try.ntmps45
          go_wp2_with (go_at_call 54; refine (indented_any _ (by assumption) w _ (by assumption)).mono ?_; rintro e w' ⟨rfl, rfl⟩)
          go_ret
          exact ⟨_, rfl, rfl, Below.refl _ _⟩
        · rw [if_neg h0]
          have hk0 : ((k : Int) == 0) = false := beq_eq_false_iff_ne.2 (by omega)
          clear h0
          go_enter Try.func45, Try.ntmps45
          go_wp2_with (first
            | (go_at_call 48; refine (repeat_int _ k rfl (by omega) w).mono ?_; rintro e w' ⟨s, hs, rfl, hb⟩)
            | (go_at_call 54; refine (indented_any _ (by assumption) w _ (by assumption)).mono ?_; rintro e w' ⟨rfl, rfl⟩))
          go_ret
          exact ⟨s, hs, rfl, hb⟩

set_option maxHeartbeats 1000000 in
theorem ending_any (h : Hd) (a b : Nat) (ha : a ≤ 100000) (hb : b ≤ 100000) (w : World) :
    Calls Try.prog 30 #[hdV h, .int .i64 (a : Int), .int .i64 (b : Int)] w (TxtP (brs (endN h a b)) w) := by
  obtain ⟨fo, st, ke, dg⟩ := h
  unfold hdV endN
  simp only []
  cases st with
  | true =>
    simp only [if_true]
    go_enter Try.func30, Try.ntmps30
    go_wp2
    go_ret
    exact ⟨_, rfl, rfl, (Below.refl _ _).alloc (Nat.le_refl _) _⟩
  | false =>
    simp only [Bool.false_eq_true, if_false]
    by_cases h0 : 0 < a
    · rw [if_pos h0]
      have d0 : (0 : Int) < (a : Int) := by omega
      cases ke with
      | true =>
        simp only [if_true]
        go_enter Try.func30, Try.ntmps30
        go_wp2_with (go_at_call 48; refine (repeat_int _ (1 + b) (by omega) (by omega) _).mono ?_; rintro e w' ⟨s, hs, rfl, hb⟩)
        go_ret
        exact ⟨s, hs, rfl, below_step ((Below.refl _ _).alloc (Nat.le_refl _) _) hb⟩
      | false =>
        simp only [Bool.false_eq_true, if_false]
        go_enter Try.func30, Try.ntmps30
        go_wp2_with (go_at_call 48; refine (repeat_int _ 1 (by omega) (by omega) _).mono ?_; rintro e w' ⟨s, hs, rfl, hb⟩)
        go_ret
        exact ⟨s, hs, rfl, below_step ((Below.refl _ _).alloc (Nat.le_refl _) _) hb⟩
    · rw [if_neg h0]
      obtain rfl : a = 0 := by omega
      cases ke with
      | true =>
        simp only [if_true]
        go_enter Try.func30, Try.ntmps30
        go_wp2_with (go_at_call 48; refine (repeat_int _ (0 + b) (by omega) (by omega) _).mono ?_; rintro e w' ⟨s, hs, rfl, hb⟩)
        go_ret
        exact ⟨s, hs, rfl, below_step ((Below.refl _ _).alloc (Nat.le_refl _) _) hb⟩
      | false =>
        simp only [Bool.false_eq_true, if_false]
        go_enter Try.func30, Try.ntmps30
        go_wp2_with (go_at_call 48; refine (repeat_int _ 0 (by omega) (by omega) _).mono ?_; rintro e w' ⟨s, hs, rfl, hb⟩)
        go_ret
        exact ⟨s, hs, rfl, below_step ((Below.refl _ _).alloc (Nat.le_refl _) _) hb⟩
end Go.Proofs.Ytodnfdkcmhiljaa
