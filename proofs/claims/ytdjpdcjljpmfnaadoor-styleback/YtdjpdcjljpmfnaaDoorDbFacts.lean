/- Plain facts: what is put in double quotes is taken as it was; texts one behind the other; which runes it has. -/
import Derived.Test.YtdjpdcjljpmfnaaDoorDbPut
namespace Go.Proofs.YtdjpdcjljpmfnaaDoor
open Go.RowKit
set_option linter.unusedVariables false

theorem dq_plain : ∀ (l rest : List Int), (∀ z ∈ l, z ≠ 34 ∧ z ≠ 10 ∧ z ≠ 13 ∧ z ≠ 92) → dq (l ++ rest) = (dq rest).map (fun x => (l ++ x.1, x.2 + l.length)) := by
  intro l rest
  induction l with
  | nil => intro _; simp only [List.nil_append, List.length_nil, Nat.add_zero]; cases dq rest <;> rfl
  | cons c t ih =>
    intro h
    have hc := h c (by simp)
    rw [List.cons_append, dq_ne c _ hc.1 hc.2.1 hc.2.2.1 hc.2.2.2, ih (fun z hz => h z (by simp [hz]))]
    cases dq rest with
    | none => rfl
    | some x => simp; omega
theorem utfF_hi {r : Int} (h : 128 ≤ r) (hm : r ≤ 1114111) : ∀ z ∈ utfF r, 128 ≤ z := by
  intro z hz
  unfold utfF at hz
  rw [if_neg (by omega)] at hz
  repeat' split at hz
  all_goals (simp at hz; omega)
theorem numF_hex (n : Int) (d : Nat) (c : Int) (l rest : List Int) (hl : l.length = d) (hv : hexV 0 l = some n) : numF d (c :: (l ++ rest)) = if okR n = true then some (n, 1 + d) else none := by
  unfold numF
  rw [if_neg (by simp; omega)]
  simp only [List.drop_succ_cons, List.drop_zero]
  rw [← hl, List.take_left, hv]
  rfl
theorem escF_x (l : List Int) : escF (120 :: l) = numF 2 (120 :: l) := rfl
theorem escF_u (l : List Int) : escF (117 :: l) = numF 4 (117 :: l) := rfl
theorem escF_U (l : List Int) : escF (85 :: l) = numF 8 (85 :: l) := rfl
/-- An escape by number. -/
theorem dq_num (n : Int) (d : Nat) (c : Int) (l rest : List Int) (hl : l.length = d) (hv : hexV 0 l = some n) (hc : ∀ t, escF (c :: t) = numF d (c :: t)) :
    dq (92 :: c :: (l ++ rest)) = if okR n = true then (dq rest).map (fun x => (utfF n ++ x.1, x.2 + (2 + d))) else none := by
  have he := numF_hex n d c l rest hl hv
  split
  · rename_i hok
    rw [if_pos hok] at he
    rw [dq_esc _ n (1 + d) (by rw [hc, he]), show 1 + d = d + 1 by omega, List.drop_succ_cons, ← hl, List.drop_left]
    cases dq rest with
    | none => rfl
    | some x => simp; omega
  · rename_i hok
    rw [if_neg hok] at he
    exact dq_bad _ (by rw [hc, he])
theorem esc_let {c r : Int} (h : (c, r) ∈ shL) (rest : List Int) : escF (c :: rest) = some (r, 1) := by
  have hs := shL_ok _ h
  simp only [escF]
  rw [if_neg (by omega), if_neg (by omega), if_neg (by omega), if_neg (by omega), hs.2.2.1]
  rfl
/-- One rune put, taken. -/
theorem dq_wr (r : Int) (hok : okR r = true) (rest : List Int) : dq (wrF r ++ rest) = (dq rest).map (fun x => (utfF r ++ x.1, x.2 + (wrF r).length)) := by
  obtain ⟨h0, hmax, _⟩ := okR_parts hok
  unfold wrF
  split
  · rename_i c hc
    have hm := letR_mem hc
    rw [List.cons_append, List.cons_append, List.nil_append, dq_esc _ r 1 (esc_let hm rest)]
    rfl
  rename_i hl
  split
  · refine dq_plain _ _ (fun z hz => ?_)
    by_cases h1 : r < 128
    · unfold utfF at hz
      rw [if_pos h1] at hz
      simp only [List.mem_singleton] at hz
      subst hz
      refine ⟨?_, ?_, ?_, ?_⟩ <;> (rintro rfl; revert hl; decide)
    · have := utfF_hi (by omega) hmax z hz
      omega
  split
  · have hv := hexV_F 2 r h0
    rw [Int.emod_eq_of_lt h0 (by omega)] at hv
    have := dq_num r 2 120 (hexF r 2) rest (hexF_len 2 r) hv escF_x
    rw [if_pos hok] at this
    rw [List.cons_append, List.cons_append, this]
    simp [hexF_len]
  split
  · have hv := hexV_F 4 r h0
    rw [Int.emod_eq_of_lt h0 (by omega)] at hv
    have := dq_num r 4 117 (hexF r 4) rest (hexF_len 4 r) hv escF_u
    rw [if_pos hok] at this
    rw [List.cons_append, List.cons_append, this]
    simp [hexF_len]
  · have hv := hexV_F 8 r h0
    rw [Int.emod_eq_of_lt h0 (by omega)] at hv
    have := dq_num r 8 85 (hexF r 8) rest (hexF_len 8 r) hv escF_U
    rw [if_pos hok] at this
    rw [List.cons_append, List.cons_append, this]
    simp [hexF_len]
/-- What was put is taken. -/
theorem dq_pq : ∀ (n : Nat) (zs y : List Int), zs.length ≤ n → Byte zs → pq zs = some y → ∀ rest, dq (y ++ rest) = (dq rest).map (fun x => (zs ++ x.1, x.2 + y.length)) := by
  intro n
  induction n with
  | zero =>
    intro zs y hl hb hp rest
    have : zs = [] := List.eq_nil_of_length_eq_zero (by omega)
    subst this
    rw [pq_nil] at hp
    injection hp with hp
    subst hp
    simp only [List.nil_append, List.length_nil, Nat.add_zero]; cases dq rest <;> rfl
  | succ n ih =>
    intro zs y hl hb hp rest
    by_cases hz : zs = []
    · subst hz
      rw [pq_nil] at hp
      injection hp with hp
      subst hp
      simp only [List.nil_append, List.length_nil, Nat.add_zero]; cases dq rest <;> rfl
    rcases hf : runeF zs with ⟨r, j, ok⟩
    cases ok
    · rw [pq_bad zs hz r j hf] at hp; cases hp
    · rw [pq_good zs hz r j hf] at hp
      obtain ⟨hok, hj1, hj2, hu⟩ := utf_runeF zs hb r j hf
      cases hq : pq (zs.drop j.toNat) with
      | none => rw [hq] at hp; cases hp
      | some y2 =>
        rw [hq] at hp
        simp only [Option.map_some, Option.some.injEq] at hp
        subst hp
        rw [List.append_assoc, dq_wr r hok, ih _ y2 (by rw [List.length_drop]; omega) (hb.drop _) hq rest, hu]
        cases dq rest with
        | none => rfl
        | some x =>
          simp only [Option.map_some, List.length_append, Option.some.injEq, Prod.mk.injEq]
          refine ⟨?_, by omega⟩
          rw [← List.append_assoc, List.take_append_drop]
theorem put_some {zs p : List Int} (h : putD zs = some p) : ∃ y, pq zs = some y ∧ p = 34 :: (y ++ [34]) := by
  unfold putD at h
  cases hq : pq zs with
  | none => rw [hq] at h; cases h
  | some y => rw [hq] at h; simp only [Option.map_some, Option.some.injEq] at h; exact ⟨y, rfl, h.symm⟩
theorem take_put {zs p : List Int} (hb : Byte zs) (h : putD zs = some p) (tail : List Int) : takeD (p ++ tail) = some (zs, p.length) := by
  obtain ⟨y, hy, rfl⟩ := put_some h
  rw [List.cons_append, takeD_cons, List.append_assoc, dq_pq _ zs y (Nat.le_refl _) hb hy, List.cons_append, dq_quote]
  simp; omega
theorem take_open {zs y : List Int} (hb : Byte zs) (h : pq zs = some y) : takeD (34 :: y) = none := by
  have := dq_pq _ zs y (Nat.le_refl _) hb h []
  rw [List.append_nil] at this
  rw [takeD_cons, this]; rfl
theorem pq_append : ∀ (n : Nat) (s t y1 y2 : List Int), s.length ≤ n → Byte s → pq s = some y1 → pq t = some y2 → pq (s ++ t) = some (y1 ++ y2) := by
  intro n
  induction n with
  | zero =>
    intro s t y1 y2 hl hb h1 h2
    have : s = [] := List.eq_nil_of_length_eq_zero (by omega)
    subst this
    rw [pq_nil] at h1
    injection h1 with h1
    subst h1
    exact h2
  | succ n ih =>
    intro s t y1 y2 hl hb h1 h2
    by_cases hz : s = []
    · subst hz
      rw [pq_nil] at h1
      injection h1 with h1
      subst h1
      exact h2
    rcases hf : runeF s with ⟨r, j, ok⟩
    cases ok
    · rw [pq_bad s hz r j hf] at h1; cases h1
    · rw [pq_good s hz r j hf] at h1
      obtain ⟨hok, hj1, hj2, hu⟩ := utf_runeF s hb r j hf
      cases hq : pq (s.drop j.toNat) with
      | none => rw [hq] at h1; cases h1
      | some y =>
        rw [hq] at h1
        simp only [Option.map_some, Option.some.injEq] at h1
        subst h1
        have hs : s = utfF r ++ s.drop j.toNat := by rw [hu, List.take_append_drop]
        have hul : (utfF r).length = j.toNat := by rw [hu, List.length_take]; omega
        have hf2 : runeF (s ++ t) = (r, j, true) := by
          rw [hs, List.append_assoc, runeF_utf r hok, hul, show ((j.toNat : Nat) : Int) = j by omega]
        rw [pq_good (s ++ t) (by simp [hz]) r j hf2, List.drop_append_of_le_length hj2, ih _ t y y2 (by rw [List.length_drop]; omega) (hb.drop _) hq h2]
        simp
/-! ### The runes of what was put -/
def Fine (l : List Int) : Prop := ∃ rs : List Int, l = rs.flatMap utfF ∧ ∀ r ∈ rs, okR r = true ∧ prt r = true ∧ r ≠ 9 ∧ r ≠ 10 ∧ r ≠ 13
theorem Fine.append {a b : List Int} (h : Fine a) (k : Fine b) : Fine (a ++ b) := by
  obtain ⟨ra, rfl, ha⟩ := h
  obtain ⟨rb, rfl, hb⟩ := k
  refine ⟨ra ++ rb, by simp, fun r hr => ?_⟩
  rcases List.mem_append.1 hr with h1 | h1
  · exact ha r h1
  · exact hb r h1
theorem asc_fine (l : List Int) (h : ∀ z ∈ l, 32 ≤ z ∧ z ≤ 126) : Fine l := by
  refine ⟨l, ?_, fun r hr => ?_⟩
  · induction l with
    | nil => rfl
    | cons c t ih =>
      have hc := h c (by simp)
      rw [List.flatMap_cons, ← ih (fun z hz => h z (by simp [hz]))]
      unfold utfF
      rw [if_pos (by omega)]; rfl
  · have hr := h r hr
    refine ⟨okR_mk (by omega) (by omega) (by unfold surr; simp; omega), ?_, by omega, by omega, by omega⟩
    unfold prt surr
    rw [if_neg (by omega), if_neg (by omega), if_neg (by omega)]
    simp; omega
theorem fine_wr (r : Int) (hok : okR r = true) : Fine (wrF r) := by
  unfold wrF
  split
  · rename_i c hc
    have hs := shL_ok _ (letR_mem hc)
    exact asc_fine _ (fun z hz => by simp at hz; omega)
  rename_i hl
  split
  · rename_i hp
    refine ⟨[r], by simp, fun q hq => ?_⟩
    simp only [List.mem_singleton] at hq
    subst hq
    refine ⟨hok, hp, ?_, ?_, ?_⟩ <;> (rintro rfl; revert hl; decide)
  split
  · exact asc_fine _ (fun z hz => by
      simp only [List.mem_cons] at hz
      rcases hz with rfl | rfl | hz
      · omega
      · omega
      · have := hexF_byte _ _ z hz; omega)
  split
  · exact asc_fine _ (fun z hz => by
      simp only [List.mem_cons] at hz
      rcases hz with rfl | rfl | hz
      · omega
      · omega
      · have := hexF_byte _ _ z hz; omega)
  · exact asc_fine _ (fun z hz => by
      simp only [List.mem_cons] at hz
      rcases hz with rfl | rfl | hz
      · omega
      · omega
      · have := hexF_byte _ _ z hz; omega)
theorem fine_pq : ∀ (n : Nat) (zs y : List Int), zs.length ≤ n → Byte zs → pq zs = some y → Fine y := by
  intro n
  induction n with
  | zero =>
    intro zs y hl hb hp
    have : zs = [] := List.eq_nil_of_length_eq_zero (by omega)
    subst this
    rw [pq_nil] at hp
    injection hp with hp
    subst hp
    exact ⟨[], rfl, fun r hr => by cases hr⟩
  | succ n ih =>
    intro zs y hl hb hp
    by_cases hz : zs = []
    · subst hz
      rw [pq_nil] at hp
      injection hp with hp
      subst hp
      exact ⟨[], rfl, fun r hr => by cases hr⟩
    rcases hf : runeF zs with ⟨r, j, ok⟩
    cases ok
    · rw [pq_bad zs hz r j hf] at hp; cases hp
    · rw [pq_good zs hz r j hf] at hp
      obtain ⟨hok, hj1, hj2, hu⟩ := utf_runeF zs hb r j hf
      cases hq : pq (zs.drop j.toNat) with
      | none => rw [hq] at hp; cases hp
      | some y2 =>
        rw [hq] at hp
        simp only [Option.map_some, Option.some.injEq] at hp
        subst hp
        exact (fine_wr r hok).append (ih _ y2 (by rw [List.length_drop]; omega) (hb.drop _) hq)
theorem fine_put {zs p : List Int} (hb : Byte zs) (h : putD zs = some p) : Fine p := by
  obtain ⟨y, hy, rfl⟩ := put_some h
  have h1 : Fine [34] := asc_fine _ (fun z hz => by simp at hz; omega)
  exact h1.append ((fine_pq _ zs y (Nat.le_refl _) hb hy).append h1)
theorem fine_byte {l : List Int} (h : Fine l) : ∀ z ∈ l, z ≠ 9 ∧ z ≠ 10 ∧ z ≠ 13 := by
  obtain ⟨rs, rfl, hr⟩ := h
  intro z hz
  obtain ⟨r, hrs, hz⟩ := List.mem_flatMap.1 hz
  obtain ⟨h1, h2, h3⟩ := hr r hrs
  by_cases hlt : r < 128
  · unfold utfF at hz
    rw [if_pos hlt] at hz
    simp only [List.mem_singleton] at hz
    subst hz
    exact h3
  · have := utfF_hi (by omega) (okR_parts h1).2.1 z hz
    omega
theorem pq_len : ∀ (n : Nat) (zs y : List Int), zs.length ≤ n → Byte zs → pq zs = some y → y.length ≤ 10 * zs.length := by
  intro n
  induction n with
  | zero =>
    intro zs y hl hb hp
    have : zs = [] := List.eq_nil_of_length_eq_zero (by omega)
    subst this
    rw [pq_nil] at hp
    injection hp with hp
    subst hp
    simp
  | succ n ih =>
    intro zs y hl hb hp
    by_cases hz : zs = []
    · subst hz
      rw [pq_nil] at hp
      injection hp with hp
      subst hp
      simp
    rcases hf : runeF zs with ⟨r, j, ok⟩
    cases ok
    · rw [pq_bad zs hz r j hf] at hp; cases hp
    · rw [pq_good zs hz r j hf] at hp
      obtain ⟨hok, hj1, hj2, hu⟩ := utf_runeF zs hb r j hf
      cases hq : pq (zs.drop j.toNat) with
      | none => rw [hq] at hp; cases hp
      | some y2 =>
        rw [hq] at hp
        simp only [Option.map_some, Option.some.injEq] at hp
        subst hp
        have h1 := ih _ y2 (by rw [List.length_drop]; omega) (hb.drop _) hq
        have h2 := (wrF_len r).2
        rw [List.length_drop] at h1
        rw [List.length_append]
        omega
theorem put_size {zs p : List Int} (hb : Byte zs) (h : putD zs = some p) : 2 ≤ p.length ∧ p.length ≤ 10 * zs.length + 2 := by
  obtain ⟨y, hy, rfl⟩ := put_some h
  have := pq_len _ zs y (Nat.le_refl _) hb hy
  simp; omega
end Go.Proofs.YtdjpdcjljpmfnaaDoor
