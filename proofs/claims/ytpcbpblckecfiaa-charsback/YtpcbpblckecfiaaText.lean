/- What Check comes to where texts are put together. -/
import Derived.Test.YtpcbpblckecfiaaConv
namespace Go.Proofs.Ytpcbpblckecfiaa
open Go.RowKit
set_option linter.unusedVariables false

theorem runeF_append (zs ys : List Int) (r n : Int) (h : runeF zs = (r, n, true)) : runeF (zs ++ ys) = (r, n, true) := by
  cases zs with
  | nil => simp [runeF] at h
  | cons c t =>
    by_cases hs : ldN c = 0 ∨ ((c :: t).length : Int) < ldN c
    · rw [runeF_short c t hs] at h; simp at h
    · have hl : 1 ≤ ldN c := by rcases ldN_cases c with e | e | e | e | e <;> omega
      have hlen : ldN c ≤ ((c :: t).length : Int) := by omega
      have htk : (t ++ ys).take (ldN c - 1).toNat = t.take (ldN c - 1).toNat := by
        rw [List.take_append_of_le_length]
        simp at hlen; omega
      have hlen2 : ldN c ≤ ((c :: (t ++ ys)).length : Int) := by simp at hlen ⊢; omega
      cases ha : accR (ldR c) (t.take (ldN c - 1).toNat) with
      | none => rw [runeF_none c t hl hlen ha] at h; simp at h
      | some q =>
        by_cases hb : q < ldL c ∨ 1114111 < q ∨ surr q = true
        · rw [runeF_bad c t hl hlen q ha hb] at h; simp at h
        · rw [runeF_good c t hl hlen q ha hb] at h
          rw [List.cons_append, runeF_good c (t ++ ys) hl hlen2 q (by rw [htk]; exact ha) hb]
          exact h

theorem badAt_false {zs : List Int} (h : badAt zs = false) : ∃ r n, runeF zs = (r, n, true) ∧ prt r = true ∧ ((r == 13) = true → brk zs = true) := by
  unfold badAt at h
  simp only [Bool.or_eq_false_iff, Bool.not_eq_false', Bool.and_eq_false_iff] at h
  refine ⟨(runeF zs).1, (runeF zs).2.1, ?_, h.1.2, fun e => ?_⟩
  · rw [← h.1.1]
  · rcases h.2 with h2 | h2
    · rw [h2] at e; cases e
    · exact h2

theorem brk_append {zs ys : List Int} (h : brk zs = true) : brk (zs ++ ys) = true := by
  unfold brk at h ⊢
  simp only [Bool.and_eq_true, decide_eq_true_eq, beq_iff_eq] at h ⊢
  refine ⟨by rw [List.length_append]; omega, ?_⟩
  rw [← h.2]
  simp [List.getD, List.getElem?_append_left h.1]

theorem badAt_append {zs ys : List Int} (h : badAt zs = false) : badAt (zs ++ ys) = false ∧ (runeF (zs ++ ys)).2.1 = (runeF zs).2.1 := by
  obtain ⟨r, n, hf, hp, hb⟩ := badAt_false h
  have ha := runeF_append zs ys r n hf
  refine ⟨?_, by rw [ha, hf]⟩
  unfold badAt
  rw [ha, hp]
  cases h13 : (r == 13)
  · rfl
  · rw [brk_append (hb h13)]; rfl

theorem chk_append : ∀ (f : Nat) (zs ys : List Int) (k : Int) (g : Nat), zs.length ≤ f → (zs ++ ys).length ≤ g → chk f zs k = (0, 0) → chk g (zs ++ ys) k = chk g ys (k + zs.length) := by
  intro f
  induction f with
  | zero =>
    intro zs ys k g h1 _ _
    have : zs = [] := List.eq_nil_of_length_eq_zero (by omega)
    subst this
    simp
  | succ f ih =>
    intro zs ys k g h1 h2 h
    by_cases hz : zs = []
    · subst hz; simp
    · cases hb : badAt zs
      · obtain ⟨e1, e2⟩ := badAt_append (ys := ys) hb
        have hn := runeF_n zs hz
        rw [chk, if_neg hz, if_neg (by rw [hb]; simp)] at h
        have hne : zs ++ ys ≠ [] := by simp [hz]
        rw [chk_good g (zs ++ ys) k h2 hne e1, e2]
        have hd : (zs ++ ys).drop (runeF zs).2.1.toNat = zs.drop (runeF zs).2.1.toNat ++ ys := List.drop_append_of_le_length (by omega)
        rw [hd, ih _ ys _ g (by rw [List.length_drop]; omega) (by rw [← hd, List.length_drop]; omega) h]
        congr 1
        rw [List.length_drop]; omega
      · rw [chk_bad (f + 1) zs k h1 hz hb] at h; simp at h

theorem chk_shift : ∀ (f : Nat) (zs : List Int) (k k' : Int), chk f zs k = (0, 0) → chk f zs k' = (0, 0) := by
  intro f
  induction f with
  | zero => intro zs k k' _; rfl
  | succ f ih =>
    intro zs k k' h
    rw [chk] at h ⊢
    split
    · rfl
    · rename_i hz
      rw [if_neg hz] at h
      split
      · rename_i hb; rw [if_pos hb] at h; simp at h
      · rename_i hb; rw [if_neg hb] at h; exact ih _ _ _ h

theorem chk_zero : ∀ (f : Nat) (zs : List Int) (k : Int), (chk f zs k).2 = 0 → chk f zs k = (0, 0) := by
  intro f
  induction f with
  | zero => intro zs k _; rfl
  | succ f ih =>
    intro zs k h
    rw [chk] at h ⊢
    split
    · rfl
    · rename_i hz
      rw [if_neg hz] at h
      split
      · rename_i hb; rw [if_pos hb] at h; simp at h
      · rename_i hb; rw [if_neg hb] at h; exact ih _ _ h

theorem checkF_zero (zs : List Int) (h : (checkF zs).2 = 0) : checkF zs = (0, 0) := by
  unfold checkF at h ⊢
  split
  · rename_i hl; rw [if_pos hl] at h; simp at h
  · rename_i hl
    rw [if_neg hl] at h
    split
    · rename_i hm; rw [if_pos hm] at h; exact chk_zero _ _ _ h
    · rename_i hm; rw [if_neg hm] at h; exact chk_zero _ _ _ h

theorem checkF_two (zs : List Int) : (checkF zs).2 = 0 ∨ (checkF zs).2 ≠ 0 := by omega

/-- A text that is one, without a mark: from wherever it is gone through. -/
theorem chk_text (zs : List Int) (h : checkF zs = (0, 0)) (hm : mrk zs = false) (n : Nat) (hn : zs.length ≤ n) (k : Int) : chk n zs k = (0, 0) := by
  unfold checkF at h
  split at h
  · simp at h
  · rw [if_neg (by rw [hm]; simp)] at h
    rw [chk_fuel n zs.length zs k hn (Nat.le_refl _)]
    exact chk_shift _ _ _ _ h

theorem mrk_three (zs : List Int) (h : mrk zs = true) : ∃ t, zs = 239 :: 187 :: 191 :: t := by
  match zs, h with
  | [], h => simp [mrk] at h
  | [a], h => simp [mrk] at h
  | [a, b], h => simp [mrk] at h
  | a :: b :: c :: t, h =>
    simp [mrk] at h
    obtain ⟨⟨rfl, rfl⟩, rfl⟩ := h
    exact ⟨t, rfl⟩

theorem text_append (zs ys : List Int) (h : checkF zs = (0, 0)) (hy : zs ≠ [] ∨ mrk ys = false) (hl : (zs ++ ys).length ≤ 65536) : checkF (zs ++ ys) = chk (zs ++ ys).length ys zs.length := by
  have h' := h
  unfold checkF at h
  have hlz : ¬ 65536 < zs.length := by rw [List.length_append] at hl; omega
  rw [if_neg hlz] at h
  cases hm : mrk zs
  · rw [if_neg (by rw [hm]; simp)] at h
    have hm2 : mrk (zs ++ ys) = false := by
      cases hmm : mrk (zs ++ ys)
      · rfl
      · exfalso
        obtain ⟨t, ht⟩ := mrk_three _ hmm
        match zs, h', hm, ht, hy with
        | [], _, _, ht, hy =>
          rcases hy with hy | hy
          · exact hy rfl
          · rw [List.nil_append] at hmm; rw [hmm] at hy; cases hy
        | [a], h', _, ht, _ =>
          simp at ht
          obtain ⟨rfl, _⟩ := ht
          exact absurd h' (by decide +kernel)
        | [a, b], h', _, ht, _ =>
          simp at ht
          obtain ⟨rfl, rfl, _⟩ := ht
          exact absurd h' (by decide +kernel)
        | a :: b :: c :: t', _, hm, ht, _ =>
          simp at ht
          obtain ⟨rfl, rfl, rfl, _⟩ := ht
          simp [mrk] at hm
    unfold checkF
    rw [if_neg (by omega), if_neg (by rw [hm2]; simp)]
    rw [chk_append _ zs ys 0 _ (Nat.le_refl _) (Nat.le_refl _) h]
    simp
  · rw [if_pos hm] at h
    obtain ⟨t, rfl⟩ := mrk_three _ hm
    have hm2 : mrk (239 :: 187 :: 191 :: t ++ ys) = true := by simp [mrk]
    unfold checkF
    rw [if_neg (by omega), if_pos hm2]
    have e : (239 :: 187 :: 191 :: t ++ ys).drop 3 = t ++ ys := rfl
    have e' : (239 :: 187 :: 191 :: t : List Int).drop 3 = t := rfl
    rw [e'] at h
    rw [e, chk_append _ t ys 3 _ (by simp; omega) (by simp; omega) h]
    congr 1
    simp; omega

theorem mark_text (ys : List Int) (h : checkF ys = (0, 0)) (hm : mrk ys = false) (hl : ys.length + 3 ≤ 65536) : checkF (239 :: 187 :: 191 :: ys) = (0, 0) := by
  unfold checkF
  have hm2 : mrk (239 :: 187 :: 191 :: ys) = true := by simp [mrk]
  rw [if_neg (by simp; omega), if_pos hm2]
  exact chk_text ys h hm _ (by simp; omega) _

theorem text_both (zs ys : List Int) (h : checkF zs = (0, 0)) (hy : checkF ys = (0, 0)) (hm : mrk ys = false) (hl : (zs ++ ys).length ≤ 65536) : checkF (zs ++ ys) = (0, 0) := by
  rw [text_append zs ys h (.inr hm) hl]
  exact chk_text ys hy hm _ (by rw [List.length_append]; omega) _

theorem text_spoilt (zs ys : List Int) (h : checkF zs = (0, 0)) (hy : zs ≠ [] ∨ mrk ys = false) (hb : badAt ys = true) (hne : ys ≠ []) (hl : (zs ++ ys).length ≤ 65536) : checkF (zs ++ ys) = ((zs.length : Int), 1) := by
  rw [text_append zs ys h hy hl]
  exact chk_bad _ ys _ (by rw [List.length_append]; omega) hne hb

def badB : List Int := [192, 193, 245, 255, 128, 0, 1, 127]
theorem bad_at (j : Nat) (hj : j < 8) (t : List Int) : badAt (badB.getD j 0 :: t) = true ∧ mrk (badB.getD j 0 :: t) = false := by
  have key : ∀ c, c ∈ badB → badAt (c :: t) = true ∧ mrk (c :: t) = false := by
    intro c hc
    have hcases : c = 192 ∨ c = 193 ∨ c = 245 ∨ c = 255 ∨ c = 128 ∨ c = 0 ∨ c = 1 ∨ c = 127 := by simpa [badB] using hc
    have hm : mrk (c :: t) = false := by unfold mrk; simp; omega
    refine ⟨?_, hm⟩
    unfold badAt
    by_cases h1 : (128 ≤ c ∧ c < 194) ∨ (244 < c ∧ c < 256)
    · rw [runeF_off c t h1]; rfl
    · rw [runeF_ascii c t (by omega) (by omega)]
      have : prt c = false := by
        have : c = 0 ∨ c = 1 ∨ c = 127 := by omega
        rcases this with rfl | rfl | rfl <;> rfl
      rw [this]; simp
  refine key _ ?_
  have : badB.getD j 0 = badB[j]'(by simp [badB]; omega) := by simp [List.getD, badB, hj]
  rw [this]; exact List.getElem_mem _

theorem return_bad (t : List Int) (h : t.getD 0 0 ≠ 10 ∨ t = []) : badAt (13 :: t) = true ∧ mrk (13 :: t) = false := by
  refine ⟨?_, by unfold mrk; simp⟩
  unfold badAt
  rw [runeF_ascii 13 t (by omega) (by omega)]
  have : brk (13 :: t) = false := by
    unfold brk
    rcases h with h | rfl
    · have e : (13 :: t).getD 1 0 = t.getD 0 0 := by simp [List.getD]
      rw [e]; simp; intro _; simpa [List.getD] using h
    · simp
  rw [this]; simp

theorem return_good (t : List Int) (h : checkF t = (0, 0)) (hm : mrk t = false) (n : Nat) (hn : t.length + 2 ≤ n) (k : Int) : chk n (13 :: 10 :: t) k = (0, 0) := by
  have b1 : badAt (13 :: 10 :: t) = false := by
    unfold badAt
    rw [runeF_ascii 13 _ (by omega) (by omega)]
    have : brk (13 :: 10 :: t) = true := by unfold brk; simp
    rw [this]; rfl
  have b2 : badAt (10 :: t) = false := by
    unfold badAt
    rw [runeF_ascii 10 _ (by omega) (by omega)]
    rfl
  rw [chk_good n _ k (by simp; omega) (by simp) b1, runeF_ascii 13 _ (by omega) (by omega)]
  have e1 : (13 :: 10 :: t).drop (1 : Int).toNat = 10 :: t := rfl
  rw [e1, chk_good n _ _ (by simp; omega) (by simp) b2, runeF_ascii 10 _ (by omega) (by omega)]
  have e2 : (10 :: t).drop (1 : Int).toNat = t := rfl
  rw [e2]
  exact chk_text t h hm n (by omega) _

theorem mark_bad (t : List Int) : badAt (239 :: 187 :: 191 :: t) = true := by
  have h0 : runeF [239, 187, 191] = (65279, 3, true) := by decide +kernel
  have := runeF_append [239, 187, 191] t _ _ h0
  unfold badAt
  rw [show (239 :: 187 :: 191 :: t : List Int) = [239, 187, 191] ++ t from rfl, this]
  have : prt 65279 = false := by decide +kernel
  rw [this]; rfl

theorem byt_append (s t : ByteArray) : byt (s ++ t) = byt s ++ byt t := by
  simp [byt, ByteArray.data_append]
theorem mrk_byt (t : ByteArray) : mrk (byt t) = (decide (3 ≤ t.size) && (t.extract 0 3).toList == [239, 187, 191]) := by
  have hsz : t.size = t.data.toList.length := by simp
  rw [ByteArray.toList_eq]
  have he : (t.extract 0 3).data.toList = t.data.toList.take 3 := by simp
  rw [he, hsz]
  unfold byt
  generalize t.data.toList = l
  match l with
  | [] => rfl
  | [a] => rfl
  | [a, b] => rfl
  | a :: b :: c :: l =>
    unfold mrk
    simp only [List.map_cons, List.length_cons, List.length_map]
    rw [decide_eq_true (by omega)]
    refine Bool.eq_iff_iff.2 ?_
    simp [← UInt8.toNat_inj]
    omega
end Go.Proofs.Ytpcbpblckecfiaa
