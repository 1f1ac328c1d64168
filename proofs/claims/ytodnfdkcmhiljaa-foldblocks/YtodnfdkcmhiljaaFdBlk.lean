/- Rows written below a header at a column: their lines, and what Body comes to there. No program. -/
import Derived.Test.YtodnfdkcmhiljaaFdSame
import Derived.Test.YtodnfdkcmhiljaaLnFacts
namespace Go.Proofs.Ytodnfdkcmhiljaa
open Go.RowKit
set_option linter.unusedVariables false

/-- A row that can be written so. -/
def Good (t : List Int) : Prop := (∀ z ∈ t, z ≠ 10 ∧ z ≠ 13) ∧ (t = [] ∨ t.getD 0 0 ≠ 32)
def rowT (col : Nat) (t : List Int) : List Int := if t = [] then [] else List.replicate col 32 ++ t
/-- Rows with their breaks. -/
def encB (col : Nat) (br : List Int) (ts : List (List Int)) : List Int := ts.flatMap (fun t => rowT col t ++ br)
theorem rowT_no (col : Nat) (t : List Int) (h : Good t) : ∀ z ∈ rowT col t, z ≠ 10 ∧ z ≠ 13 := by
  intro z hz
  unfold rowT at hz
  split at hz
  · simp at hz
  · rcases List.mem_append.1 hz with g | g
    · simp at g; omega
    · exact h.1 z g
theorem findIdx_no (r t : List Int) (h : ∀ z ∈ r, z ≠ 10) : (r ++ t).findIdx (· == 10) = r.length + t.findIdx (· == 10) := by
  induction r with
  | nil => simp
  | cons x r ih =>
    have hx : (x == 10) = false := beq_eq_false_iff_ne.2 (h x (by simp))
    rw [List.cons_append, List.findIdx_cons, hx, ih (fun z hz => h z (by simp [hz]))]
    simp; omega
theorem drop_get (zs : List Int) (a k : Nat) : zs.getD (a + k) 0 = (zs.drop a).getD k 0 := by simp [List.getD, List.getElem?_drop]
theorem lnF_row (zs r br tl : List Int) (a : Nat) (ha : a ≤ zs.length) (hz : zs.drop a = r ++ (br ++ tl)) (hr : ∀ z ∈ r, z ≠ 10 ∧ z ≠ 13) (hbr : br = [10] ∨ br = [13, 10]) : lnF zs a = ⟨a, a + r.length, a + r.length + br.length⟩ := by
  have hlen : zs.length = a + (r.length + (br.length + tl.length)) := by
    have := congrArg List.length hz
    simp only [List.length_drop, List.length_append] at this
    omega
  have hnl : nl zs a = r.length + (br ++ tl).findIdx (· == 10) := by
    unfold nl; rw [hz]; exact findIdx_no r _ (fun z hz => (hr z hz).1)
  rcases hbr with rfl | rfl
  · have hf : ([10] ++ tl : List Int).findIdx (· == 10) = 0 := by simp [List.findIdx_cons]
    rw [hf, Nat.add_zero] at hnl
    simp only [List.length_cons, List.length_nil] at hlen
    unfold lnF
    rw [hnl, if_pos (by omega)]
    have hno : ¬ (0 < r.length ∧ zs.getD (a + r.length - 1) 0 = 13) := by
      rintro ⟨h1, h2⟩
      rw [show a + r.length - 1 = a + (r.length - 1) by omega, drop_get, hz, List.getD, List.getElem?_append_left (by omega), List.getElem?_eq_getElem (by omega)] at h2
      exact (hr _ (List.getElem_mem (show r.length - 1 < r.length by omega))).2 (by simpa using h2)
    rw [if_neg hno]
    simp
  · have hf : ([13, 10] ++ tl : List Int).findIdx (· == 10) = 1 := by simp [List.findIdx_cons]
    rw [hf] at hnl
    simp only [List.length_cons, List.length_nil] at hlen
    unfold lnF
    rw [hnl, if_pos (by omega)]
    have hyes : 0 < r.length + 1 ∧ zs.getD (a + (r.length + 1) - 1) 0 = 13 := by
      refine ⟨by omega, ?_⟩
      rw [show a + (r.length + 1) - 1 = a + r.length by omega, drop_get, hz]
      simp [List.getD]
    rw [if_pos hyes]
    simp
    omega
/-- A line that is that row. -/
def LnIs (zs : List Int) (l : Ln) (r : List Int) : Prop := cont zs l = r ∧ l.f + r.length = l.t
/-- Lines that are those rows. -/
def LnsAre (zs : List Int) : List Ln → List (List Int) → Prop
  | [], [] => True
  | l :: ls, r :: rs => LnIs zs l r ∧ LnsAre zs ls rs
  | _, _ => False
theorem rest_rows (zs br : List Int) (hbr : br = [10] ∨ br = [13, 10]) : ∀ (rows : List (List Int)) (a : Nat), a ≤ zs.length → zs.drop a = rows.flatMap (· ++ br) → (∀ r ∈ rows, ∀ z ∈ r, z ≠ 10 ∧ z ≠ 13) → LnsAre zs (rest zs a) rows := by
  intro rows
  induction rows with
  | nil =>
    intro a ha hz _
    have : zs.length ≤ a := by simpa using hz
    rw [rest_nil zs a this]
    trivial
  | cons r t ih =>
    intro a ha hz hr
    rw [List.flatMap_cons, List.append_assoc] at hz
    have hb : 0 < br.length := by rcases hbr with rfl | rfl <;> simp
    have hlen := congrArg List.length hz
    simp only [List.length_drop, List.length_append] at hlen
    have hlt : a < zs.length := by omega
    have hln := lnF_row zs r br _ a ha hz (hr r (by simp)) hbr
    rw [rest_cons zs a hlt, hln]
    refine ⟨⟨?_, by simp⟩, ih (a + r.length + br.length) (by omega) ?_ (fun x hx => hr x (by simp [hx]))⟩
    · unfold cont
      simp only []
      rw [hz, show a + r.length - a = r.length by omega]
      simp
    · rw [show a + r.length + br.length = a + (r.length + br.length) by omega, ← List.drop_drop, hz, ← List.append_assoc, List.drop_left' (by simp)]
theorem blanks_rep (col : Nat) (t : List Int) (ht : t ≠ []) (h : t.getD 0 0 ≠ 32) : blanks (List.replicate col 32 ++ t) = col := by
  induction col with
  | zero =>
    cases t with
    | nil => exact absurd rfl ht
    | cons c r => simp at h; simp [blanks, h]
  | succ k ih => simp [List.replicate_succ, blanks, ih]
theorem blk_rows (zs : List Int) (col : Nat) (hc : 1 ≤ col) : ∀ (ts : List (List Int)) (ls : List Ln), (∀ t ∈ ts, Good t) → LnsAre zs ls (ts.map (rowT col) ++ [[101, 110, 100]]) →
    nblg zs col ls = ts.length ∧ (ls.take ts.length).map (rowF zs col) = ts ∧ (ls.take ts.length).any (badF zs col) = false := by
  intro ts
  induction ts with
  | nil =>
    intro ls _ h
    match ls, h with
    | [l], h =>
      have hl : LnIs zs l [101, 110, 100] := h.1
      have hi : indF zs l = 0 := by unfold indF; have := hl.1; unfold cont at this; rw [this]; simp [blanks]
      have hb : blkF zs l = false := by unfold blkF; rw [hi]; have := hl.2; simp at this; simp; omega
      refine ⟨?_, rfl, rfl⟩
      simp [nblg, blg, hb, hi]; omega
  | cons t ts ih =>
    intro ls hg h
    match ls, h with
    | l :: ls', h =>
      have hl : LnIs zs l (rowT col t) := h.1
      have ht : LnsAre zs ls' (ts.map (rowT col) ++ [[101, 110, 100]]) := h.2
      obtain ⟨i1, i2, i3⟩ := ih ls' (fun x hx => hg x (by simp [hx])) ht
      have hgt := hg t (by simp)
      have hcn := hl.1
      have hlt := hl.2
      by_cases h0 : t = []
      · subst h0
        simp only [rowT, if_true] at hcn hlt
        have hi : indF zs l = 0 := by unfold indF; unfold cont at hcn; rw [hcn]; rfl
        have hb : blkF zs l = true := by unfold blkF; rw [hi]; simp at hlt; simp [hlt]
        refine ⟨by simp [nblg, blg, hb, i1], by simp [i2, rowF, hb], by simp [i3, badF, hi]⟩
      · simp only [rowT, if_neg h0] at hcn hlt
        have hne := hgt.2.resolve_left h0
        have hi : indF zs l = col := by unfold indF; unfold cont at hcn; rw [hcn]; exact blanks_rep col t h0 hne
        have hp : 0 < t.length := List.length_pos_iff.2 h0
        have hb : blkF zs l = false := by
          unfold blkF; rw [hi]
          simp only [List.length_append, List.length_replicate] at hlt
          exact beq_eq_false_iff_ne.2 (by omega)
        have hd : dmk zs l = false := by
          unfold dmk dmkL
          rw [hcn]
          obtain ⟨k, rfl⟩ : ∃ k, col = k + 1 := ⟨col - 1, by omega⟩
          simp [List.replicate_succ]
        refine ⟨by simp [nblg, blg, hb, hi, hd, i1], ?_, by simp [i3, badF, hb]⟩
        simp only [List.length_cons, List.take_succ_cons, List.map_cons, i2]
        congr 1
        simp [rowF, hb, hcn]
theorem lns_len (zs : List Int) : ∀ (l : List Ln) (m : List (List Int)), LnsAre zs l m → l.length = m.length := by
  intro l
  induction l with
  | nil => intro m h; cases m with
    | nil => rfl
    | cons a t => exact h.elim
  | cons x t ih => intro m h; cases m with
    | nil => exact h.elim
    | cons a r => simp [ih r h.2]
/-- Body at such rows: by a digit that tells the column, and by none. -/
theorem blocks (ts : List (List Int)) (col base : Nat) (parent : Int) (br : List Int) (hbr : br = [10] ∨ br = [13, 10]) (hc : 1 ≤ col) (hg : ∀ t ∈ ts, Good t) (h0 : ts.getD 0 [] ≠ []) (hb : (max parent 0).toNat = base) (hbc : base < col) (zs : List Int) (hz : zs = encB col br ts ++ ([101, 110, 100] ++ br)) :
    splitF zs = rest zs 0 ∧ (splitF zs).length = ts.length + 1 ∧
    bodyF zs (splitF zs) 0 (extF zs (splitF zs) 0 parent (col - base)).1 (extF zs (splitF zs) 0 parent (col - base)).2 = some (ts, ts.length) ∧
    bodyF zs (splitF zs) 0 (extF zs (splitF zs) 0 parent 0).1 (extF zs (splitF zs) 0 parent 0).2 = some (ts, ts.length) := by
  obtain ⟨t0, tr, rfl⟩ : ∃ t0 tr, ts = t0 :: tr := by
    cases ts with
    | nil => simp at h0
    | cons a b => exact ⟨a, b, rfl⟩
  have ht0 : t0 ≠ [] := by simpa using h0
  have hh : ∃ s, zs = 32 :: s ∧ col ≤ zs.length := by
    obtain ⟨k, rfl⟩ : ∃ k, col = k + 1 := ⟨col - 1, by omega⟩
    rw [hz]
    refine ⟨_, by simp only [encB, List.flatMap_cons, rowT, if_neg ht0, List.replicate_succ, List.cons_append]; rfl, ?_⟩
    simp only [encB, List.flatMap_cons, rowT, if_neg ht0, List.length_append, List.length_replicate]
    omega
  obtain ⟨s, hs, hcl⟩ := hh
  have hm : bgn zs = 0 := by unfold bgn mrk; rw [hs]; simp
  have hsp : splitF zs = rest zs 0 := by unfold splitF; rw [hm]
  have hrows : LnsAre zs (rest zs 0) ((t0 :: tr).map (rowT col) ++ [[101, 110, 100]]) := by
    refine rest_rows zs br hbr _ 0 (by omega) ?_ ?_
    · rw [List.drop_zero, hz, List.flatMap_append, List.flatMap_map]
      simp [encB]
    · intro r hr
      rcases List.mem_append.1 hr with g | g
      · obtain ⟨t, ht, rfl⟩ := List.mem_map.1 g
        exact rowT_no col t (hg t ht)
      · simp at g; subst g; intro z hz; simp at hz; omega
  have hlen := lns_len zs _ _ hrows
  simp only [List.length_append, List.length_map, List.length_cons, List.length_nil] at hlen
  obtain ⟨n1, n2, n3⟩ := blk_rows zs col hc (t0 :: tr) (rest zs 0) hg hrows
  rw [hsp]
  refine ⟨rfl, by simpa using hlen, ?_⟩
  obtain ⟨l0, lr, hl0⟩ : ∃ l0 lr, rest zs 0 = l0 :: lr := by
    cases hr : rest zs 0 with
    | nil => rw [hr] at hlen; simp at hlen
    | cons a b => exact ⟨a, b, rfl⟩
  have hfirst : LnIs zs l0 (rowT col t0) := by
    rw [hl0] at hrows
    exact hrows.1
  have hne := (hg t0 (by simp)).2.resolve_left ht0
  have hi0 : indF zs l0 = col := by
    have := hfirst.1
    simp only [rowT, if_neg ht0] at this
    unfold indF; unfold cont at this; rw [this]; exact blanks_rep col t0 ht0 hne
  have hb0 : blkF zs l0 = false := by
    have := hfirst.2
    simp only [rowT, if_neg ht0, List.length_append, List.length_replicate] at this
    have hp : 0 < t0.length := List.length_pos_iff.2 ht0
    unfold blkF; rw [hi0]; exact beq_eq_false_iff_ne.2 (by omega)
  have hd0 : dmk zs l0 = false := by
    have := hfirst.1
    simp only [rowT, if_neg ht0] at this
    unfold dmk dmkL
    rw [this]
    obtain ⟨k, rfl⟩ : ∃ k, col = k + 1 := ⟨col - 1, by omega⟩
    simp [List.replicate_succ]
  have hnf : nfill zs ((rest zs 0).drop 0) = 0 := by rw [List.drop_zero, hl0]; simp [nfill, hb0]
  have hl0' : lnAt (rest zs 0) 0 = l0 := by rw [hl0]; rfl
  have hfin : bodyF zs (rest zs 0) 0 col (tr.length + 1) = some (t0 :: tr, tr.length + 1) := by
    have n2' := n2
    have n3' := n3
    simp only [List.length_cons] at n2' n3'
    unfold bodyF
    rw [List.drop_zero, Nat.sub_zero, n3', n2', if_neg (by simp)]
  constructor
  · rw [ext_dg zs (rest zs 0) 0 parent (col - base) 0 col (by omega) (by rw [hnf]) (by rw [hb]; omega)]
    simp only [List.drop_zero, n1, Nat.zero_add, List.length_cons]
    exact hfin
  · have ho : onlyF zs (rest zs 0) 0 parent = false := by
      unfold onlyF
      rw [hl0', hi0, hd0, hlen]
      have : ¬ ((col : Int) ≤ parent) := by omega
      simp [this]
    rw [ext_ind zs (rest zs 0) 0 parent 0 col (by rw [hnf]) (by rw [hl0', hi0]) ho]
    simp only [List.drop_zero, n1, Nat.zero_add, List.length_cons]
    exact hfin
end Go.Proofs.Ytodnfdkcmhiljaa
