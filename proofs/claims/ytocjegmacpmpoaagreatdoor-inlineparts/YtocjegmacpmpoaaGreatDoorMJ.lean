/- Chapter 12: what style writes is one scalar: plain facts. No program. · What a play's texts on a line are read as: scalars, keys, what stands ahead of a node, in whatever place. No program. · What a play's text on a line is read as: one node, wherever it stands; each scalar of it, by itself, is that scalar. No program. · Chapter 12: a node's places lie in its parent's, one behind the other. No program. -/
import Derived.Test.YtocjegmacpmpoaaGreatDoorMG
import Derived.Test.YtocjegmacpmpoaaGreatDoorMH
import Derived.Test.YtocjegmacpmpoaaGreatDoorME
import Derived.Test.YtocjegmacpmpoaaGreatDoorMI
set_option linter.unusedSimpArgs false
set_option linter.unusedVariables false
/-! ### InSty -/
namespace Go.Proofs.YtocjegmacpmpoaaGreatDoor
open Go.RowKit
set_option linter.unusedVariables false
set_option maxRecDepth 100000

theorem inF_fine : ∀ (f : Nat) (zs : List Int), zs.length ≤ f → Byte zs → inF false f zs = true → Fine zs := by
  intro f
  induction f with
  | zero =>
    intro zs h1 _ _
    have : zs = [] := List.eq_nil_of_length_eq_zero (by omega)
    subst this
    exact ⟨[], rfl, by simp⟩
  | succ f ih =>
    intro zs h1 hb h
    simp only [inF] at h
    split at h
    · rename_i h0; subst h0; exact ⟨[], rfl, by simp⟩
    · split at h
      · cases h
      · rename_i h0 hbad
        rcases hr : runeF zs with ⟨r, j, ok⟩
        unfold badL at hbad
        rw [hr] at hbad h
        simp only [Bool.or_eq_true, Bool.and_eq_true, not_or, Bool.not_eq_true', Bool.not_eq_false, beq_iff_eq, not_and] at hbad
        obtain ⟨⟨⟨⟨b1, b2⟩, b3⟩, b4⟩, b5⟩ := hbad
        subst b1
        obtain ⟨hok, hj1, hj2, hu⟩ := utf_runeF zs hb r j hr
        obtain ⟨rs, hrs, hall⟩ := ih (zs.drop j.toNat) (by rw [List.length_drop]; omega) (hb.drop _) h
        refine ⟨r :: rs, by rw [List.flatMap_cons, ← hrs, hu, List.take_append_drop], ?_⟩
        intro q hq
        rcases List.mem_cons.1 hq with rfl | hq
        · exact ⟨hok, b2, fun e => by simp_all, b3, b4⟩
        · exact hall q hq
theorem chk_fine : ∀ (rs : List Int) (f : Nat) (k : Int), (∀ r ∈ rs, okR r = true ∧ prt r = true ∧ r ≠ 9 ∧ r ≠ 10 ∧ r ≠ 13) → (rs.flatMap utfF).length ≤ f → chk f (rs.flatMap utfF) k = (0, 0) := by
  intro rs
  induction rs with
  | nil => intro f k _ _; cases f <;> simp [chk]
  | cons r rs ih =>
    intro f k h hl
    obtain ⟨g1, g2, g3, g4, g5⟩ := h r (by simp)
    have hu := runeF_utf r g1 (rs.flatMap utfF)
    have hn := utfF_len r
    rw [List.flatMap_cons] at hl ⊢
    rw [List.length_append] at hl
    cases f with
    | zero => omega
    | succ f =>
      have hne : utfF r ++ rs.flatMap utfF ≠ [] := by
        intro e
        have := congrArg List.length e
        rw [List.length_append, List.length_nil] at this; omega
      have hbad : badAt (utfF r ++ rs.flatMap utfF) = false := by
        unfold badAt
        rw [hu]
        simp only [g2, Bool.not_true, Bool.false_or, beq_eq_false_iff_ne.2 g5, Bool.false_and]
      simp only [chk, if_neg hne, hbad, hu, Int.toNat_natCast, List.drop_left]
      exact ih f _ (fun q hq => h q (by simp [hq])) (by omega)
theorem fine_unmarked {zs : List Int} (h : Fine zs) : mrkC zs = false ∧ (zs.take 3 == [239, 187, 191]) = false := by
  have key : zs.take 3 ≠ [239, 187, 191] := by
    intro e
    obtain ⟨t, rfl⟩ : ∃ t, zs = 239 :: 187 :: 191 :: t := by
      match zs, e with
      | a :: b :: c :: t, e => simp at e; obtain ⟨rfl, rfl, rfl⟩ := e; exact ⟨t, rfl⟩
    obtain ⟨rs, hrs, hall⟩ := h
    cases rs with
    | nil => simp at hrs
    | cons r rs =>
      obtain ⟨g1, g2, _⟩ := hall r (by simp)
      have hu := runeF_utf r g1 (rs.flatMap utfF)
      rw [← List.flatMap_cons, ← hrs] at hu
      have h3 : runeF (239 :: 187 :: 191 :: t) = (65279, 3, true) := by
        simp only [runeF, List.length_cons]
        rw [if_neg (by simp [ldN]; omega)]
        rfl
      rw [h3] at hu
      injection hu with hu
      subst hu
      simp [prt] at g2
  refine ⟨?_, beq_eq_false_iff_ne.2 key⟩
  cases hm : mrkC zs with
  | false => rfl
  | true =>
    unfold mrkC at hm
    simp only [Bool.and_eq_true, decide_eq_true_eq, beq_iff_eq] at hm
    exfalso
    match zs, hm, key with
    | a :: b :: c :: t, hm, key => simp at hm; obtain ⟨⟨rfl, rfl⟩, rfl⟩ := hm; exact key rfl
    | [], hm, _ => simp at hm
    | [a], hm, _ => simp at hm
    | [a, b], hm, _ => simp at hm
theorem text_fine {zs : List Int} (h : Fine zs) (hl : zs.length ≤ 65536) : inText zs = true := by
  obtain ⟨h1, h2⟩ := fine_unmarked h
  have h10 : zs.contains 10 = false := by
    cases hc : zs.contains 10
    · rfl
    · rw [List.contains_iff_mem] at hc; exact absurd rfl (fine_byte h 10 hc).2.1
  unfold inText checkF
  rw [if_neg (by omega), h1, h2, h10]
  obtain ⟨rs, rfl, hall⟩ := h
  rw [if_neg (by decide), chk_fine rs _ 0 hall (Nat.le_refl _)]
  rfl
theorem takeP_no {l : List Int} (h : Pr.begF l = false) : Pr.takeP l = ([], [], 0, true) := Pr.goP_stop _ l 0 0 [] [] h
/-- A text in double quotes is one scalar. -/
theorem parse_quoted {zs p : List Int} (hb : Byte zs) (h : putD zs = some p) (hl : p.length ≤ 65536) (fl : Bool) :
    inParse p fl = .ok [⟨1, 3, [33, 33, 115, 116, 114], [], zs, 0, p.length, 0, 0, []⟩] := by
  have ht := text_fine (fine_put hb h) hl
  have hq := take_put hb h []
  rw [List.append_nil] at hq
  obtain ⟨y, hy, rfl⟩ := put_some h
  have e1 : Pr.takeP ((34 :: (y ++ [34])).drop 0) = ([], [], 0, true) := takeP_no (by rfl)
  have e2 : inBlk (34 :: (y ++ [34])) (0 + 0) = 0 := by unfold inBlk; rw [List.drop_zero, blk_cons, if_neg (by decide)]
  have e3 : inLeaf (34 :: (y ++ [34])) fl 0 = some (1, 3, zs, (34 :: (y ++ [34])).length) := by
    unfold inLeaf
    rw [if_pos (by rfl), List.drop_zero, hq]; rfl
  unfold inParse
  rw [if_pos ht]
  have e4 : inNode 64 (34 :: (y ++ [34])) fl 0 0 = .ok ([⟨1, 3, [33, 33, 115, 116, 114], [], zs, 0, (34 :: (y ++ [34])).length, 0, 0, []⟩], (34 :: (y ++ [34])).length) := by
    show inNodeG _ _ _ _ _ _ = _
    unfold inNodeG
    rw [e1]
    simp only [if_true]
    rw [e2]
    unfold inCont
    rw [if_neg (by rw [List.getD_cons_zero]; decide), if_neg (by rw [List.getD_cons_zero]; decide), if_neg (by rw [List.getD_cons_zero]; decide), e3]
    simp only [inDone]
    rw [if_neg (by decide), if_neg (by decide)]
    simp [inFin, inTag, Nd.nil]
  rw [e4]
  simp only []
  rw [if_neg (by simp)]
/-- A tag, a blank, a text in double quotes: one scalar of that tag. -/
theorem parse_tagged {wd zs p : List Int} (hg : Pr.begF wd = true) (ha : ∀ z ∈ wd, 33 ≤ z ∧ z ≤ 126) (hw : Pr.withF [] [] wd = (wd, [], true)) (h33 : wd ≠ [33]) (hb : Byte zs) (h : putD zs = some p) (hl : (wd ++ 32 :: p).length ≤ 65536) (fl : Bool) :
    inParse (wd ++ 32 :: p) fl = .ok [⟨1, 3, wd, [], zs, 0, (wd ++ 32 :: p).length, 0, 0, []⟩] := by
  have hf : Fine (wd ++ 32 :: p) := by
    have := (asc_fine (wd ++ [32]) (by intro z hz; rcases List.mem_append.1 hz with hz | hz; have := ha z hz; omega; simp at hz; omega)).append (fine_put hb h)
    rwa [List.append_assoc] at this
  have ht := text_fine hf hl
  have hq := take_put hb h []
  rw [List.append_nil] at hq
  obtain ⟨y, hy, rfl⟩ := put_some h
  have hn : wd ≠ [] := by intro e; subst e; cases hg
  have hn1 : 0 < wd.length := List.length_pos_iff.2 hn
  obtain ⟨b, hbb⟩ : ∃ b, wd ++ 32 :: 34 :: (y ++ [34]) = b := ⟨_, rfl⟩
  have e1 : Pr.takeP (b.drop 0) = (wd, [], wd.length, true) := by
    rw [List.drop_zero, ← hbb]
    exact (Pr.take_one wd hg (fun z hz => by have := ha z hz; omega) _ _ hw _ ⟨rfl, by simp⟩).1
  have d0 : b.drop wd.length = 32 :: 34 :: (y ++ [34]) := by rw [← hbb, List.drop_left]
  have e2 : inBlk b (0 + wd.length) = wd.length + 1 := by
    unfold inBlk; rw [Nat.zero_add, d0, blk_cons, if_pos rfl, blk_cons, if_neg (by decide)]
  have d1 : b.drop (wd.length + 1) = 34 :: (y ++ [34]) := by rw [← List.drop_drop, d0]; rfl
  have g1 : b.getD (wd.length + 1) 0 = 34 := by
    have := congrArg (fun l => l.getD 0 0) d1
    simp only [List.getD_eq_getElem?_getD, List.getElem?_drop, Nat.add_zero] at this
    rw [List.getD_eq_getElem?_getD, this]; rfl
  have hlen : b.length = wd.length + 1 + (34 :: (y ++ [34])).length := by rw [← hbb]; simp; omega
  have e3 : inLeaf b fl (wd.length + 1) = some (1, 3, zs, (34 :: (y ++ [34])).length) := by
    unfold inLeaf
    rw [if_pos g1, d1, hq]; rfl
  rw [hbb] at ht ⊢
  unfold inParse
  rw [if_pos ht]
  have e4 : inNode 64 b fl 0 0 = .ok ([⟨1, 3, wd, [], zs, 0, b.length, 0, 0, []⟩], b.length) := by
    show inNodeG _ _ _ _ _ _ = _
    unfold inNodeG
    rw [e1]
    simp only [if_true]
    rw [e2]
    unfold inCont
    rw [g1, if_neg (by decide), if_neg (by decide), if_neg (by decide), e3]
    simp only [inDone]
    rw [if_neg (by rintro ⟨h, _⟩; cases h), if_neg (by decide), ← hlen]
    rw [if_neg (show ¬ wd.length = 0 by omega)]
    simp [inFin, inTag, Nd.nil, hn, h33]
  rw [e4]
  simp only []
  rw [if_neg (by omega)]
/-- A plain text is one scalar. -/
theorem parse_plain {zs : List Int} {fl : Bool} (hb : Byte zs) (h : validF zs fl = true) (hl : zs.length ≤ 65536) :
    inParse zs fl = .ok [⟨1, 1, nums (resF (u8s zs)), [], zs, 0, zs.length, 0, 0, []⟩] := by
  unfold validF at h
  simp only [Bool.and_eq_true, decide_eq_true_eq] at h
  obtain ⟨h0, h1, h2⟩ := h
  have ht := text_fine (inF_fine _ zs (Nat.le_refl _) hb h1) hl
  have hs : startF zs fl = true := by
    cases hs : startF zs fl with
    | true => rfl
    | false => rw [lenF_no hs] at h2; omega
  obtain ⟨hno, _⟩ := start_first hs
  unfold noF at hno
  simp only [Bool.or_eq_false_iff] at hno
  obtain ⟨⟨⟨⟨_, n1⟩, n2⟩, n3⟩, _⟩ := hno
  have hx : ∀ c : Int, (blk c || flo c || oth c) = true → zs.getD 0 0 ≠ c := by
    rintro c hc rfl
    rw [n1, n2, n3] at hc; cases hc
  have x32 := hx 32 (by decide)
  have x33 := hx 33 (by decide)
  have x34 := hx 34 (by decide)
  have x38 := hx 38 (by decide)
  have x39 := hx 39 (by decide)
  have x42 := hx 42 (by decide)
  have x91 := hx 91 (by decide)
  have x123 := hx 123 (by decide)
  have e1 : Pr.takeP (zs.drop 0) = ([], [], 0, true) := by
    rw [List.drop_zero]
    apply takeP_no
    cases zs with
    | nil => rfl
    | cons a t =>
      simp only [List.getD_cons_zero] at x33 x38
      simp [Pr.begF, x33, x38]
  have e2 : inBlk zs (0 + 0) = 0 := by
    unfold inBlk
    rw [List.drop_zero]
    cases zs with
    | nil => rfl
    | cons a t =>
      simp only [List.getD_cons_zero] at x32
      rw [blk_cons, if_neg x32]
  have e3 : inLeaf zs fl 0 = some (1, 1, zs, zs.length) := by
    unfold inLeaf
    rw [if_neg x34, if_neg x39, List.drop_zero, if_pos hs, h2, List.take_length]
  unfold inParse
  rw [if_pos ht]
  have e4 : inNode 64 zs fl 0 0 = .ok ([⟨1, 1, nums (resF (u8s zs)), [], zs, 0, zs.length, 0, 0, []⟩], zs.length) := by
    show inNodeG _ _ _ _ _ _ = _
    unfold inNodeG
    rw [e1]
    simp only [if_true]
    rw [e2]
    unfold inCont
    rw [if_neg x42, if_neg x91, if_neg x123, e3]
    simp only [inDone]
    rw [if_neg (by decide), if_neg (by decide)]
    simp [inFin, inTag, Nd.nil]
  rw [e4]
  simp only []
  rw [if_neg (by omega)]
end Go.Proofs.YtocjegmacpmpoaaGreatDoor
/-! ### PyTell -/
namespace Go.Proofs.YtocjegmacpmpoaaGreatDoor
open Go.RowKit
set_option linter.unusedVariables false
set_option maxRecDepth 100000

/-! ### Printable texts without breaks -/
def Fit (l : List Int) : Prop := ∃ rs : List Int, l = rs.flatMap utfF ∧ ∀ r ∈ rs, okR r = true ∧ prt r = true ∧ r ≠ 10 ∧ r ≠ 13
theorem Fine.fit {l : List Int} (h : Fine l) : Fit l := by
  obtain ⟨rs, h1, h2⟩ := h
  exact ⟨rs, h1, fun r hr => ⟨(h2 r hr).1, (h2 r hr).2.1, (h2 r hr).2.2.2.1, (h2 r hr).2.2.2.2⟩⟩
theorem Fit.append {a b : List Int} (h : Fit a) (k : Fit b) : Fit (a ++ b) := by
  obtain ⟨ra, rfl, ha⟩ := h
  obtain ⟨rb, rfl, hb⟩ := k
  refine ⟨ra ++ rb, by simp, fun r hr => ?_⟩
  rcases List.mem_append.1 hr with h1 | h1
  · exact ha r h1
  · exact hb r h1
theorem asc_fit (l : List Int) (h : ∀ z ∈ l, 32 ≤ z ∧ z ≤ 126) : Fit l := (asc_fine l h).fit
theorem inF_fit (tb : Bool) : ∀ (f : Nat) (zs : List Int), zs.length ≤ f → Byte zs → inF tb f zs = true → Fit zs := by
  intro f
  induction f with
  | zero =>
    intro zs h1 _ _
    have : zs = [] := List.eq_nil_of_length_eq_zero (by omega)
    subst this
    exact ⟨[], rfl, by simp⟩
  | succ f ih =>
    intro zs h1 hb h
    simp only [inF] at h
    split at h
    · rename_i h0; subst h0; exact ⟨[], rfl, by simp⟩
    · split at h
      · cases h
      · rename_i h0 hbad
        rcases hr : runeF zs with ⟨r, j, ok⟩
        unfold badL at hbad
        rw [hr] at hbad h
        simp only [Bool.or_eq_true, not_or, Bool.not_eq_true', Bool.not_eq_false, beq_iff_eq] at hbad
        obtain ⟨⟨⟨⟨b1, b2⟩, b3⟩, b4⟩, b5⟩ := hbad
        subst b1
        obtain ⟨hok, hj1, hj2, hu⟩ := utf_runeF zs hb r j hr
        obtain ⟨rs, hrs, hall⟩ := ih (zs.drop j.toNat) (by rw [List.length_drop]; omega) (hb.drop _) h
        refine ⟨r :: rs, by rw [List.flatMap_cons, ← hrs, hu, List.take_append_drop], ?_⟩
        intro q hq
        rcases List.mem_cons.1 hq with rfl | hq
        · exact ⟨hok, b2, b3, b4⟩
        · exact hall q hq
theorem chk_fit : ∀ (rs : List Int) (f : Nat) (k : Int), (∀ r ∈ rs, okR r = true ∧ prt r = true ∧ r ≠ 10 ∧ r ≠ 13) → (rs.flatMap utfF).length ≤ f → chk f (rs.flatMap utfF) k = (0, 0) := by
  intro rs
  induction rs with
  | nil => intro f k _ _; cases f <;> simp [chk]
  | cons r rs ih =>
    intro f k h hl
    obtain ⟨g1, g2, g4, g5⟩ := h r (by simp)
    have hu := runeF_utf r g1 (rs.flatMap utfF)
    have hn := utfF_len r
    rw [List.flatMap_cons] at hl ⊢
    rw [List.length_append] at hl
    cases f with
    | zero => omega
    | succ f =>
      have hne : utfF r ++ rs.flatMap utfF ≠ [] := by
        intro e
        have := congrArg List.length e
        rw [List.length_append, List.length_nil] at this; omega
      have hbad : badAt (utfF r ++ rs.flatMap utfF) = false := by
        unfold badAt
        rw [hu]
        simp only [g2, Bool.not_true, Bool.false_or, beq_eq_false_iff_ne.2 g5, Bool.false_and]
      simp only [chk, if_neg hne, hbad, hu, Int.toNat_natCast, List.drop_left]
      exact ih f _ (fun q hq => h q (by simp [hq])) (by omega)
theorem fit_unmarked {zs : List Int} (h : Fit zs) : mrkC zs = false ∧ (zs.take 3 == [239, 187, 191]) = false := by
  have key : zs.take 3 ≠ [239, 187, 191] := by
    intro e
    obtain ⟨t, rfl⟩ : ∃ t, zs = 239 :: 187 :: 191 :: t := by
      match zs, e with
      | a :: b :: c :: t, e => simp at e; obtain ⟨rfl, rfl, rfl⟩ := e; exact ⟨t, rfl⟩
    obtain ⟨rs, hrs, hall⟩ := h
    cases rs with
    | nil => simp at hrs
    | cons r rs =>
      obtain ⟨g1, g2, _⟩ := hall r (by simp)
      have hu := runeF_utf r g1 (rs.flatMap utfF)
      rw [← List.flatMap_cons, ← hrs] at hu
      have h3 : runeF (239 :: 187 :: 191 :: t) = (65279, 3, true) := by
        simp only [runeF, List.length_cons]
        rw [if_neg (by simp [ldN]; omega)]
        rfl
      rw [h3] at hu
      injection hu with hu
      subst hu
      simp [prt] at g2
  refine ⟨?_, beq_eq_false_iff_ne.2 key⟩
  cases hm : mrkC zs with
  | false => rfl
  | true =>
    unfold mrkC at hm
    simp only [Bool.and_eq_true, decide_eq_true_eq, beq_iff_eq] at hm
    exfalso
    match zs, hm, key with
    | a :: b :: c :: t, hm, key => simp at hm; obtain ⟨⟨rfl, rfl⟩, rfl⟩ := hm; exact key rfl
    | [], hm, _ => simp at hm
    | [a], hm, _ => simp at hm
    | [a, b], hm, _ => simp at hm
theorem fit_byte {l : List Int} (h : Fit l) : ∀ z ∈ l, z ≠ 10 ∧ z ≠ 13 := by
  obtain ⟨rs, rfl, hr⟩ := h
  intro z hz
  obtain ⟨r, hrs, hz⟩ := List.mem_flatMap.1 hz
  obtain ⟨h1, h2, h3⟩ := hr r hrs
  by_cases hlt : r < 128
  · unfold utfF at hz
    rw [if_pos hlt] at hz
    simp only [List.mem_singleton] at hz
    subst hz
    exact h3
  · have := utfF_hi (by omega) (okR_parts h1).2.1 z hz
    omega
theorem text_fit {zs : List Int} (h : Fit zs) (hl : zs.length ≤ 65536) : inText zs = true := by
  obtain ⟨h1, h2⟩ := fit_unmarked h
  have h10 : zs.contains 10 = false := by
    cases hc : zs.contains 10
    · rfl
    · rw [List.contains_iff_mem] at hc; exact absurd rfl (fit_byte h 10 hc).1
  unfold inText checkF
  rw [if_neg (by omega), h1, h2, h10]
  obtain ⟨rs, rfl, hall⟩ := h
  rw [if_neg (by decide), chk_fit rs _ 0 hall (Nat.le_refl _)]
  rfl
theorem dbl_no39 : ∀ l : List Int, (∀ z ∈ l, z ≠ 39) → Sg.dbl l = l
  | [], _ => rfl
  | c :: t, h => by
    rw [Sg.dbl, if_neg (h c (by simp)), dbl_no39 t (fun z hz => h z (by simp [hz]))]
theorem fit_dbl {t : List Int} (h : Fit t) : Fit (Sg.dbl t) := by
  obtain ⟨rs, rfl, hr⟩ := h
  induction rs with
  | nil => exact ⟨[], rfl, by simp⟩
  | cons r rs ih =>
    rw [List.flatMap_cons, Sg.dbl_append]
    refine Fit.append ?_ (ih (fun q hq => hr q (by simp [hq])))
    obtain ⟨h1, h2, h3, h4⟩ := hr r (by simp)
    by_cases h39 : r = 39
    · subst h39
      exact asc_fit _ (by decide)
    · rw [dbl_no39]
      · exact ⟨[r], by simp, by simpa using ⟨h1, h2, h3, h4⟩⟩
      · intro z hz
        by_cases hlt : r < 128
        · unfold utfF at hz
          rw [if_pos hlt] at hz
          simp only [List.mem_singleton] at hz
          omega
        · have := utfF_hi (by omega) (okR_parts h1).2.1 z hz
          omega

/-! ### Places -/
theorem at_getD {b l : List Int} {p : Nat} (h : b.drop p = l) (k : Nat) : b.getD (p + k) 0 = l.getD k 0 := by rw [← h, getD_drop]
theorem at_get0 {b l : List Int} {p : Nat} (h : b.drop p = l) : b.getD p 0 = l.getD 0 0 := at_getD h 0
theorem at_past {b x l : List Int} {p : Nat} (h : b.drop p = x ++ l) : b.drop (p + x.length) = l := by rw [← List.drop_drop, h, List.drop_left]
theorem at_one {b l : List Int} {p : Nat} {c : Int} (h : b.drop p = c :: l) : b.drop (p + 1) = l := by rw [← List.drop_drop, h]; rfl
theorem at_lt {b l : List Int} {p : Nat} {c : Int} (h : b.drop p = c :: l) : p < b.length := by
  have := congrArg List.length h
  rw [List.length_drop, List.length_cons] at this
  omega
theorem getD_app {x y : List Int} {k : Nat} (h : k < x.length) : (x ++ y).getD k 0 = x.getD k 0 := by rw [List.getD, List.getElem?_append_left h]; rfl
theorem getD_app2 (x y : List Int) (k : Nat) : (x ++ y).getD (x.length + k) 0 = y.getD k 0 := by rw [List.getD, List.getElem?_append_right (by omega), Nat.add_sub_cancel_left]; rfl
theorem blk_reps : ∀ (k : Nat) (t : List Int), t.getD 0 0 ≠ 32 → blkF (List.replicate k 32 ++ t) = k
  | 0, t, h => by
    cases t with
    | nil => rfl
    | cons c t =>
      simp only [List.getD_cons_zero] at h
      rw [List.replicate_zero, List.nil_append, blk_cons, if_neg h]
  | k + 1, t, h => by rw [List.replicate_succ, List.cons_append, blk_cons, if_pos rfl, blk_reps k t h]
theorem at_blk {b t : List Int} {p : Nat} (k : Nat) (h : b.drop p = List.replicate k 32 ++ t) (ht : t.getD 0 0 ≠ 32) : inBlk b p = p + k := by
  unfold inBlk; rw [h, blk_reps k t ht]
theorem at_blk0 {b t : List Int} {p : Nat} (h : b.drop p = t) (ht : t.getD 0 0 ≠ 32) : inBlk b p = p := at_blk 0 h ht
theorem at_reps {b t : List Int} {p : Nat} (k : Nat) (h : b.drop p = List.replicate k 32 ++ t) : b.drop (p + k) = t := by
  have := at_past h
  rwa [List.length_replicate] at this
/-- What may stand behind a node: blanks, and then the end, or a comma, or a closing bracket. -/
def Safe (r : List Int) : Prop := ∃ (k : Nat) (t : List Int), r = List.replicate k 32 ++ t ∧ (t = [] ∨ t.getD 0 0 = 44 ∨ t.getD 0 0 = 93 ∨ t.getD 0 0 = 125)
theorem Safe.blank {r : List Int} (h : Safe r) : Safe (32 :: r) := by
  obtain ⟨k, t, rfl, ht⟩ := h
  exact ⟨k + 1, t, by rw [List.replicate_succ]; rfl, ht⟩
theorem Safe.blanks {r : List Int} (h : Safe r) : ∀ k, Safe (List.replicate k 32 ++ r)
  | 0 => h
  | k + 1 => (h.blanks k).blank
/-- What ends a plain scalar. -/
def Ends (r : List Int) : Prop := (∃ j, j ≤ r.length ∧ (∀ i, i < j → r.getD i 0 = 32) ∧ (j = r.length ∨ ∀ zs : List Int, 0 < zs.length → endF (zs ++ r) true (zs.length + j) = true)) ∧ ∀ c u, r = c :: u → c ≠ 39 ∧ c ≠ 45 ∧ c ≠ 46
theorem Safe.ends {r : List Int} (h : Safe r) : Ends r := by
  obtain ⟨k, t, rfl, ht⟩ := h
  refine ⟨⟨k, by simp, fun i hi => ?_, ?_⟩, ?_⟩
  · rw [getD_app (by simpa using hi), List.getD, List.getElem?_replicate, if_pos hi]; rfl
  · rcases ht with rfl | ht
    · left; simp
    · right
      intro zs hz
      have hc : (zs ++ (List.replicate k 32 ++ t)).getD (zs.length + k) 0 = t.getD 0 0 := by
        rw [getD_app2]
        have := getD_app2 (List.replicate k 32) t 0
        rw [List.length_replicate] at this
        exact this
      unfold endF
      rw [hc]
      unfold endC
      rcases ht with ht | ht | ht <;> rw [ht] <;> simp [flo]
  · intro c u hc
    cases k with
    | zero =>
      rw [List.replicate_zero, List.nil_append] at hc
      rcases ht with rfl | ht
      · cases hc
      · rw [hc] at ht
        simp only [List.getD_cons_zero] at ht
        omega
    | succ k =>
      rw [List.replicate_succ, List.cons_append] at hc
      injection hc with hc _
      omega
theorem ends_colon (u : List Int) : Ends (58 :: 32 :: u) := by
  refine ⟨⟨0, by simp, fun i hi => by omega, .inr fun zs hz => ?_⟩, ?_⟩
  · unfold endF endC joinF
    rw [getD_app2, Nat.add_zero, getD_drop, show zs.length + 1 + 0 = zs.length + 1 by omega, getD_app2]
    simp [blk]
  · intro c v hc
    injection hc with hc _
    omega
/-- A plain scalar, whatever ends it. -/
theorem plain_in {x r : List Int} (hv : validF x true = true) (hr : Ends r) : startF (x ++ r) true = true ∧ lenF (x ++ r) true = x.length := by
  unfold validF at hv
  simp only [Bool.and_eq_true, decide_eq_true_eq] at hv
  obtain ⟨h0, -, h2⟩ := hv
  obtain ⟨⟨j, hj, hb, he⟩, hne⟩ := hr
  have hs : startF x true = true := by
    cases hs : startF x true with
    | true => rfl
    | false => rw [lenF_no hs] at h2; omega
  obtain ⟨hno, hen⟩ := start_first hs
  obtain ⟨-, n1, n2, n3, n4⟩ := no_parts hno
  have hx0 : (x ++ r).getD 0 0 = x.getD 0 0 := getD_app h0
  have hdoc : docF (x ++ r) = false := by
    match x, h0, n4 with
    | [c], _, n4 =>
      match r, hne with
      | [], _ => rw [List.append_nil]; exact n4
      | d :: u, hne =>
        obtain ⟨_, g1, g2⟩ := hne d u rfl
        unfold docF
        cases u <;> simp [g1, g2]
    | [c, d], _, n4 =>
      match r, hne with
      | [], _ => rw [List.append_nil]; exact n4
      | e :: u, hne =>
        obtain ⟨_, g1, g2⟩ := hne e u rfl
        unfold docF
        simp [g1, g2]
    | c :: d :: e :: u, _, n4 =>
      unfold docF at n4 ⊢
      exact n4
  have hstart : startF (x ++ r) true = true := by
    have hno' : noF (x ++ r) = false := by
      unfold noF
      rw [hx0, n1, n2, n3, hdoc, decide_eq_false (by rw [List.length_append]; omega)]
      rfl
    unfold startF
    rw [hno', hx0]
    rcases hen with hen | hen
    · rw [hen]; rfl
    · have : joinF ((x ++ r).drop 1) true = true := by
        unfold joinF at hen ⊢
        have hl : 0 < (x.drop 1).length := by
          cases hx : (x.drop 1).length with
          | zero => rw [hx] at hen; simp at hen
          | succ n => omega
        rw [List.drop_append_of_le_length (by omega), getD_app hl, decide_eq_true (by rw [List.length_append]; omega)]
        rw [decide_eq_true hl] at hen
        exact hen
      rw [this]; simp
  refine ⟨hstart, ?_⟩
  obtain ⟨s, g1, g2, g3, g4, g5, g6⟩ := len_is x true hs
  obtain ⟨k1, k2, k3⟩ := trimF_is x s
  have hsx : s = x.length := by omega
  subst hsx
  have hlast : x.getD (x.length - 1) 0 ≠ 32 := by
    have := k2 (by omega)
    rwa [← g5, h2] at this
  rw [lenF_at hstart (x.length + j) (by rw [List.length_append]; omega) (fun i hi => ?_) (by
    rcases he with he | he
    · left; rw [List.length_append]; omega
    · right; exact he x h0)]
  · refine trimF_at _ _ _ (by omega) (fun _ => ?_) (fun i q1 q2 => ?_)
    · rw [getD_app (by omega)]; exact hlast
    · obtain ⟨q, rfl⟩ : ∃ q, i = x.length + q := ⟨i - x.length, by omega⟩
      rw [getD_app2]; exact hb q (by omega)
  · rcases Nat.lt_or_ge i x.length with h | h
    · have hi0 := g3 i h
      unfold endF endC at hi0 ⊢
      simp only [Bool.or_eq_false_iff] at hi0
      obtain ⟨⟨⟨e1, e2⟩, e3⟩, e4⟩ := hi0
      rw [getD_app h, e1, e4]
      have e2' : (x.getD i 0 == 58 && !joinF ((x ++ r).drop (i + 1)) true) = false := by
        rcases Nat.lt_or_ge (i + 1) x.length with h' | h'
        · have : joinF ((x ++ r).drop (i + 1)) true = joinF (x.drop (i + 1)) true := by
            unfold joinF
            have hl : 0 < (x.drop (i + 1)).length := by rw [List.length_drop]; omega
            rw [List.drop_append_of_le_length (by omega), getD_app hl, decide_eq_true hl, decide_eq_true (by rw [List.length_append]; omega)]
          rw [this]; exact e2
        · have h3 : x.drop (i + 1) = [] := List.drop_eq_nil_of_le h'
          rw [h3] at e2
          have : (x.getD i 0 == 58) = false := by simpa [joinF] using e2
          rw [this]; rfl
      rw [e2']
      rcases Nat.eq_zero_or_pos i with rfl | hp
      · simp
      · rw [getD_app (show i - 1 < x.length by omega), e3]; rfl
    · obtain ⟨q, rfl⟩ : ∃ q, i = x.length + q := ⟨i - x.length, by omega⟩
      unfold endF
      rw [getD_app2, hb q (by omega)]
      unfold endC
      simp [flo]

/-! ### Scalars -/
structure SIs (s : List Int) (st : Int) (v : List Int) : Prop where
  pos : 0 < s.length
  len : s.length ≤ 202
  hd : ∀ c ∈ ([32, 33, 38, 42, 91, 123, 93, 125, 44] : List Int), s.getD 0 0 ≠ c
  fit : Fit s
  leaf : ∀ (b r : List Int) (p : Nat), b.drop p = s ++ r → Ends r → inLeaf b true p = some (1, st, v, s.length)
theorem pyS_is {s : List Int} (h : PyS s) : ∃ st v, SIs s st v := by
  have hlen := pyS_len h
  cases h with
  | dbl t y ht hl h =>
    have hp := (put_size ht h).1
    have hq := fun r => take_put ht h r
    have hf := (fine_put ht h).fit
    obtain ⟨y', -, rfl⟩ := put_some h
    refine ⟨3, t, by omega, hlen, by simp, hf, fun b r p hb he => ?_⟩
    unfold inLeaf
    rw [if_pos (by rw [at_get0 hb]; rfl), hb, hq]; rfl
  | sgl t ht hl h =>
    have hnb := Sg.inF_nobrk _ t ht (Nat.le_refl _) h
    have hf : Fit (Sg.putF t) := by
      have := ((asc_fit [39] (by decide)).append (fit_dbl (inF_fit true _ t (Nat.le_refl _) ht h))).append (asc_fit [39] (by decide))
      exact this
    refine ⟨2, t, by simp [Sg.putF], hlen, by simp [Sg.putF], hf, fun b r p hb he => ?_⟩
    have h0 : b.getD p 0 = 39 := by rw [at_get0 hb]; rfl
    unfold inLeaf
    rw [if_neg (by rw [h0]; decide), if_pos h0, hb, Sg.take_put t r hnb (by
      cases r with
      | nil => simp
      | cons c u => have := (he.2 c u rfl).1; simpa using this)]
    rfl
  | pln y hy hl h =>
    have h' := h
    unfold validF at h'
    simp only [Bool.and_eq_true, decide_eq_true_eq] at h'
    obtain ⟨h0, h1, h2⟩ := h'
    have hs : startF s true = true := by
      cases hs : startF s true with
      | true => rfl
      | false => rw [lenF_no hs] at h2; omega
    obtain ⟨-, n1, n2, n3, n4⟩ := no_parts (start_first hs).1
    have hx : ∀ c : Int, (blk c || flo c || oth c) = true → s.getD 0 0 ≠ c := by
      rintro c hc rfl
      rw [n1, n2, n3] at hc; cases hc
    refine ⟨1, s, h0, hlen, fun c hc => hx c ?_, inF_fit false _ s (Nat.le_refl _) hy h1, fun b r p hb he => ?_⟩
    · simp only [List.mem_cons, List.not_mem_nil, or_false] at hc
      rcases hc with rfl | rfl | rfl | rfl | rfl | rfl | rfl | rfl | rfl <;> decide
    · obtain ⟨q1, q2⟩ := plain_in h he
      have hg : b.getD p 0 = s.getD 0 0 := by rw [at_get0 hb, getD_app h0]
      unfold inLeaf
      rw [if_neg (by rw [hg]; exact hx 34 (by decide)), if_neg (by rw [hg]; exact hx 39 (by decide)), hb, if_pos q1, q2, List.take_left]
theorem pyK_S {k : List Int} (h : PyK k) : PyS k := by
  have one : ∀ l : List Int, Byte l → l.length ≤ 20 → validF l true = true → PyS l := fun l => PyS.pln l
  rcases h with ⟨c, h1, h2, h⟩ | h
  · obtain ⟨d, rfl⟩ : ∃ d : Nat, c = 97 + d := ⟨(c - 97).toNat, by omega⟩
    have hd : d ≤ 7 := by omega
    rcases h with rfl | rfl | rfl | rfl
    · refine .dbl [97 + (d : Int), 32, 113] _ (by intro z hz; simp at hz; omega) (by simp) ?_
      rcases (by omega : d = 0 ∨ d = 1 ∨ d = 2 ∨ d = 3 ∨ d = 4 ∨ d = 5 ∨ d = 6 ∨ d = 7) with rfl | rfl | rfl | rfl | rfl | rfl | rfl | rfl <;> decide +kernel
    · have e : ([39, 97 + (d : Int), 39] : List Int) = Sg.putF [97 + (d : Int)] := by
        unfold Sg.putF
        rw [Sg.dbl, if_neg (by omega)]; rfl
      rw [e]
      refine .sgl [97 + (d : Int)] (by intro z hz; simp at hz; omega) (by simp) ?_
      rcases (by omega : d = 0 ∨ d = 1 ∨ d = 2 ∨ d = 3 ∨ d = 4 ∨ d = 5 ∨ d = 6 ∨ d = 7) with rfl | rfl | rfl | rfl | rfl | rfl | rfl | rfl <;> decide +kernel
    · refine one _ (by intro z hz; simp at hz; omega) (by simp) ?_
      rcases (by omega : d = 0 ∨ d = 1 ∨ d = 2 ∨ d = 3 ∨ d = 4 ∨ d = 5 ∨ d = 6 ∨ d = 7) with rfl | rfl | rfl | rfl | rfl | rfl | rfl | rfl <;> decide +kernel
    · refine one _ (by intro z hz; simp at hz; omega) (by simp) ?_
      rcases (by omega : d = 0 ∨ d = 1 ∨ d = 2 ∨ d = 3 ∨ d = 4 ∨ d = 5 ∨ d = 6 ∨ d = 7) with rfl | rfl | rfl | rfl | rfl | rfl | rfl | rfl <;> decide +kernel
  · simp only [List.mem_cons, List.not_mem_nil, or_false] at h
    rcases h with rfl | rfl | rfl | rfl <;> exact one _ (by unfold Byte; decide) (by decide) (by decide +kernel)

/-! ### What stands ahead of a node -/
structure PIs (p : List Int) (n : Nat) (tg an : List Int) : Prop where
  way : (p = [] ∧ n = 0 ∧ tg = [] ∧ an = []) ∨ (p.length = n + 1 ∧ 0 < n)
  fit : Fit p
  hd : ∀ c ∈ ([32, 93, 125, 44] : List Int), p.getD 0 0 ≠ c
  take : ∀ l : List Int, Pr.begF l = false → l.getD 0 0 ≠ 32 → Pr.takeP (p ++ l) = (tg, an, n, true)
  blk : ∀ (b l : List Int) (s : Nat), b.drop s = p ++ l → l.getD 0 0 ≠ 32 → inBlk b (s + n) = s + p.length
theorem pyP_is {p : List Int} (h : PyP p) : ∃ n tg an, PIs p n tg an := by
  have two : ∀ (w tg an : List Int), Pr.begF w = true → (∀ z ∈ w, 33 ≤ z ∧ z ≤ 126) → Pr.withF [] [] w = (tg, an, true) → PIs (w ++ [32]) w.length tg an := by
    intro w tg an hb hz hw
    have hn : w ≠ [] := by intro e; subst e; cases hb
    have hn1 : 0 < w.length := List.length_pos_iff.2 hn
    refine ⟨.inr ⟨by simp, hn1⟩, (asc_fit w (fun z hz' => by have := hz z hz'; omega)).append (asc_fit [32] (by decide)), fun c hc => ?_, fun l hl hl2 => ?_, fun b l s hbd hl2 => ?_⟩
    · rw [getD_app hn1]
      have : w.getD 0 0 = 33 ∨ w.getD 0 0 = 38 := by
        cases w with
        | nil => cases hb
        | cons x t => simpa [Pr.begF] using hb
      simp only [List.mem_cons, List.not_mem_nil, or_false] at hc
      omega
    · rw [List.append_assoc]
      exact (Pr.take_one w hb (fun z hz' => by have := hz z hz'; omega) tg an hw l ⟨hl, by
        cases l with
        | nil => simp
        | cons c t => simpa using hl2⟩).1
    · rw [List.append_assoc] at hbd
      rw [at_blk 1 (at_past hbd) hl2]
      simp; omega
  cases h with
  | none => exact ⟨0, [], [], .inl ⟨rfl, rfl, rfl, rfl⟩, ⟨[], rfl, by simp⟩, by simp, fun l hl _ => takeP_no hl, fun b l s hb hl => at_blk0 (by rw [Nat.add_zero]; exact hb) hl⟩
  | anc c h1 h2 =>
    refine ⟨3, [], [110, c], two [38, 110, c] _ _ rfl (by intro z hz; simp at hz; omega) ?_⟩
    refine Pr.with_anchor [110, c] [] ?_
    unfold nameF nmb
    simp [dgt]
    omega
  | tag t h =>
    simp only [List.mem_cons, List.not_mem_nil, or_false] at h
    rcases h with rfl | rfl | rfl | rfl | rfl
    · exact ⟨_, _, _, two [33, 120] [33, 120] [] rfl (by decide) (by decide +kernel)⟩
    · exact ⟨_, _, _, two [33, 33, 115, 116, 114] [33, 33, 115, 116, 114] [] rfl (by decide) (by decide +kernel)⟩
    · exact ⟨_, _, _, two [33] [33] [] rfl (by decide) (by decide +kernel)⟩
    · exact ⟨_, _, _, two [33, 33, 109, 97, 112] [33, 33, 109, 97, 112] [] rfl (by decide) (by decide +kernel)⟩
    · exact ⟨_, _, _, two [33, 33, 105, 110, 116] [33, 33, 105, 110, 116] [] rfl (by decide) (by decide +kernel)⟩
end Go.Proofs.YtocjegmacpmpoaaGreatDoor
/-! ### PyTell2 -/
namespace Go.Proofs.YtocjegmacpmpoaaGreatDoor
open Go.RowKit
set_option linter.unusedVariables false
set_option linter.unusedSimpArgs false
set_option maxRecDepth 100000

def sfN (d : Nat) (x : Nd) : Nd := { x with st := x.st + d, en := x.en + d, hd := x.hd + d, mr := x.mr + d }
def sfL (d : Nat) (l : List Nd) : List Nd := l.map (sfN d)
theorem sfL_app (d : Nat) (l m : List Nd) : sfL d (l ++ m) = sfL d l ++ sfL d m := by simp [sfL]
theorem sfL_sh (a d : Nat) (l : List Nd) : sfL a (sfL d l) = sfL (d + a) l := by
  unfold sfL; rw [List.map_map]; apply List.map_congr_left; intro x _; simp [sfN, Nat.add_assoc]
theorem sfL_mv (a d : Nat) (l : List Nd) : sfL a (mvL d l) = mvL d (sfL a l) := by
  unfold sfL mvL; rw [List.map_map, List.map_map]; apply List.map_congr_left; intro x _; rfl
theorem mvL_mv (a d : Nat) (l : List Nd) : mvL a (mvL d l) = mvL (d + a) l := by
  unfold mvL; rw [List.map_map]; apply List.map_congr_left; intro x _; simp [mvN, Function.comp_def, Nat.add_assoc]
theorem sfL_len (d : Nat) (l : List Nd) : (sfL d l).length = l.length := by simp [sfL]
theorem mvL_zero (l : List Nd) : mvL 0 l = l := by
  unfold mvL
  have : ∀ x ∈ l, mvN 0 x = id x := by intro x _; cases x; simp [mvN]
  rw [List.map_congr_left this]; simp
theorem sh_val (a : Nat) (l : List Nd) (h m : Nat) (t : Bool) : sfL a (inVal l h m t) = inVal (sfL a l) (h + a) (m + a) t := by
  cases l with
  | nil => rfl
  | cons x l => cases t <;> rfl
/-- A scalar's own text, by itself, is that scalar. -/
def Rep (b : List Int) (y : Nd) : Prop := y.kind = 1 → y.st ≤ y.en ∧ y.en ≤ b.length ∧ ∃ z, inParse ((b.drop y.st).take (y.en - y.st)) true = .ok [z] ∧ z.kind = 1 ∧ z.style = y.style ∧ z.tag = y.tag ∧ z.value = y.value ∧ z.anchor = y.anchor
theorem Rep.put {x : List Int} {y : Nd} (h : Rep x y) (pre post : List Int) : Rep (pre ++ (x ++ post)) (sfN pre.length y) := by
  intro hk
  obtain ⟨h1, h2, z, h3, h4⟩ := h hk
  refine ⟨by simp [sfN]; omega, by simp [sfN]; omega, z, ?_, h4⟩
  have e1 : (sfN pre.length y).st = pre.length + y.st := by simp [sfN, Nat.add_comm]
  have e2 : (sfN pre.length y).en - (sfN pre.length y).st = y.en - y.st := by
    show y.en + pre.length - (y.st + pre.length) = _
    omega
  rw [e2, e1, ← List.drop_drop, List.drop_left, List.drop_append_of_le_length (by omega), List.take_append_of_le_length (by rw [List.length_drop]; omega)]
  exact h3
theorem Rep.put' {x w : List Int} {y : Nd} (h : Rep x y) (pre post : List Int) (hw : w = pre ++ (x ++ post)) (k : Nat) (hk : k = pre.length) : Rep w (sfN k y) := by subst hw hk; exact h.put pre post
theorem Rep.mv {b : List Int} {y : Nd} (h : Rep b y) (d : Nat) : Rep b (mvN d y) := h

theorem bool_beg {l : List Int} (h1 : l.getD 0 0 ≠ 33) (h2 : l.getD 0 0 ≠ 38) : Pr.begF l = false := by
  cases l with
  | nil => rfl
  | cons c t =>
    simp only [List.getD_cons_zero] at h1 h2
    simp [Pr.begF, h1, h2]
section
variable {p s : List Int} {n : Nat} {tg an v : List Int} {st : Int}
/-- A scalar, with what stands ahead of it. -/
theorem nodeG_leaf (hp : PIs p n tg an) (hs : SIs s st v) {b r : List Int} {q : Nat} (hb : b.drop q = p ++ (s ++ r)) (he : Ends r) (child : Nat → Nat → InR) (deep : Bool) (base : Nat) :
    inNodeG child deep b true q base = .ok ([⟨1, st, inTag 1 st tg v, an, v, q, q + (p ++ s).length, q, q, []⟩], q + (p ++ s).length) := by
  have g0 : (s ++ r).getD 0 0 = s.getD 0 0 := getD_app hs.pos
  have hbeg : Pr.begF (s ++ r) = false := bool_beg (by rw [g0]; exact hs.hd 33 (by simp)) (by rw [g0]; exact hs.hd 38 (by simp))
  have h32 : (s ++ r).getD 0 0 ≠ 32 := by rw [g0]; exact hs.hd 32 (by simp)
  have hq := at_past hb
  have hg : b.getD (q + p.length) 0 = s.getD 0 0 := by rw [at_get0 hq, g0]
  unfold inNodeG
  rw [hb, hp.take _ hbeg h32]
  simp only [if_true]
  rw [hp.blk b _ q hb h32]
  unfold inCont
  rw [if_neg (by rw [hg]; exact hs.hd 42 (by simp)), if_neg (by rw [hg]; exact hs.hd 91 (by simp)), if_neg (by rw [hg]; exact hs.hd 123 (by simp)), hs.leaf b r _ hq he]
  simp only [inDone]
  rw [if_neg (by rintro ⟨h, _⟩; cases h), if_neg (by decide)]
  have e : (if n = 0 then q + p.length else q) = q := by
    rcases hp.way with ⟨rfl, rfl, _⟩ | ⟨_, h⟩
    · rfl
    · rw [if_neg (by omega)]
  rw [e]
  simp [inFin, Nd.nil, Nat.add_assoc]
/-- A node's text, which is m bytes, and maybe a blank behind it; so many nodes. -/
structure Is (d : Nat) (x : List Int) (m : Nat) (L : List Nd) : Prop where
  pos : 0 < m
  le : m ≤ x.length
  tail : x.drop m = List.replicate (x.length - m) 32
  fit : Fit x
  hd : ∀ c ∈ ([32, 93, 125, 44] : List Int), x.getD 0 0 ≠ c
  ne : L ≠ []
  node : ∀ (b r : List Int) (q f : Nat), b.drop q = x ++ r → Safe r → d ≤ f → inNode f b true q 0 = .ok (sfL q L, q + m)
  rep : ∀ y ∈ L, Rep x y
theorem node_G (f : Nat) (b : List Int) (fl : Bool) (q base : Nat) : ∃ child deep, inNode f b fl q base = inNodeG child deep b fl q base := by
  cases f with
  | zero => exact ⟨_, _, rfl⟩
  | succ f => exact ⟨_, _, rfl⟩
theorem parse_leaf (hp : PIs p n tg an) (hs : SIs s st v) (hl : (p ++ s).length ≤ 300) : inParse (p ++ s) true = .ok [⟨1, st, inTag 1 st tg v, an, v, 0, (p ++ s).length, 0, 0, []⟩] := by
  unfold inParse
  rw [if_pos (text_fit (hp.fit.append hs.fit) (by omega))]
  obtain ⟨child, deep, e⟩ := node_G 64 (p ++ s) true 0 0
  rw [e, nodeG_leaf hp hs (b := p ++ s) (r := []) (q := 0) (by simp) (Safe.ends ⟨0, [], rfl, .inl rfl⟩) child deep 0]
  have := hs.pos
  simp only [Nat.zero_add]
  rw [if_neg (by simp only [List.length_append]; omega)]
theorem leaf_is (hp : PIs p n tg an) (hs : SIs s st v) (hl : (p ++ s).length ≤ 300) (d : Nat) : Is d (p ++ s) (p ++ s).length [⟨1, st, inTag 1 st tg v, an, v, 0, (p ++ s).length, 0, 0, []⟩] := by
  have hz := hs.pos
  refine ⟨by rw [List.length_append]; omega, Nat.le_refl _, by simp, hp.fit.append hs.fit, fun c hc => ?_, by simp, fun b r q f hb hr hf => ?_, fun y hy => ?_⟩
  · rcases hp.way with ⟨rfl, _⟩ | ⟨h, _⟩
    · rw [List.nil_append]
      refine hs.hd c ?_
      simp only [List.mem_cons, List.not_mem_nil, or_false] at hc ⊢
      rcases hc with rfl | rfl | rfl | rfl <;> simp
    · rw [getD_app (by omega)]; exact hp.hd c hc
  · obtain ⟨child, deep, e⟩ := node_G f b true q 0
    rw [List.append_assoc] at hb
    rw [e, nodeG_leaf hp hs hb hr.ends]
    simp [sfL, sfN, Nat.add_comm]
  · simp only [List.mem_singleton] at hy
    subst hy
    intro _
    refine ⟨Nat.zero_le _, Nat.le_refl _, _, ?_, rfl, rfl, rfl, rfl, rfl⟩
    · show inParse (List.take ((p ++ s).length - 0) (List.drop 0 (p ++ s))) true = _
      rw [List.drop_zero, Nat.sub_zero, List.take_length]
      exact parse_leaf hp hs hl
/-- An alias, and the blank behind it. -/
theorem alias_is (c : Int) (h1 : 97 ≤ c) (h2 : c ≤ 122) (d : Nat) : Is d [42, 110, c, 32] 3 [⟨4, 0, [], [], [110, c], 0, 3, 0, 0, []⟩] := by
  have hc : nmb c = true := by unfold nmb; simp [dgt]; omega
  refine ⟨by decide, by simp, rfl, asc_fit _ (by intro z hz; simp at hz; omega), by simp, by simp, fun b r q f hb hr hf => ?_, fun y hy => ?_⟩
  · obtain ⟨child, deep, e⟩ := node_G f b true q 0
    have hg : b.getD q 0 = 42 := by rw [at_get0 hb]; rfl
    have ha : Pr.aliasF ([42, 110, c, 32] ++ r) = ([110, c], 3, true) := by
      have hz : Pr.ltrF 33 (110 :: c :: 32 :: r) = 2 := by
        rw [Pr.ltrF, if_pos (by decide), Pr.ltrF, if_pos hc, Pr.ltrF, if_neg (by decide)]
      have hcut : Pr.cutF 42 ([42, 110, c, 32] ++ r) = (110 :: c :: 32 :: r, true) := by simp [Pr.cutF]
      unfold Pr.aliasF
      rw [hcut]
      simp only [hz]
      have : nameF (List.take 2 (110 :: c :: 32 :: r)) = true := by
        show nameF [110, c] = true
        unfold nameF
        simp [hc]
        decide
      rw [this]
      rfl
    have hb0 : b.drop (q + 0) = [42, 110, c, 32] ++ r := hb
    rw [e]
    unfold inNodeG
    rw [hb, takeP_no rfl]
    simp only [if_true]
    rw [at_blk0 hb0 (by simp)]
    unfold inCont
    rw [Nat.add_zero, if_pos hg, hb, ha]
    simp only [if_true, inDone]
    rw [if_neg (by simp), if_neg (by simp [Nd.nil])]
    simp [inFin, inTag, Nd.nil, sfL, sfN, Nat.add_comm]
  · simp only [List.mem_singleton] at hy
    subst hy
    intro h; cases h
end
/-! ### Collections -/
abbrev EntF := Nat → List Int → Nat → Nat → InE
def After (ent : Nat → Nat → InE) (b : List Int) (c : Int) (g n base : Nat) (ks : List Nat) (bl : List Nd) : InE :=
  if b.getD (inBlk b n) 0 = c then .ok (ks, bl, inBlk b n + 1)
  else if b.getD (inBlk b n) 0 = 44 then inLoop ent b c g (inBlk b (inBlk b n + 1)) base ks bl
  else .error 2
/-- An entry. -/
structure Ent (E : EntF) (S : List Int → Prop) (d : Nat) (x : List Int) (m : Nat) (K : List Nat) (M : List Nd) : Prop where
  pos : 0 < m
  le : m ≤ x.length
  tail : x.drop m = List.replicate (x.length - m) 32
  fit : Fit x
  hd : ∀ c ∈ ([32, 93, 125, 44] : List Int), x.getD 0 0 ≠ c
  step : ∀ (b r : List Int) (q f base : Nat), b.drop q = x ++ r → S r → d ≤ f → E f b q base = .ok (K.map (· + base), mvL base (sfL q M), q + m)
  rep : ∀ y ∈ M, Rep x y
/-- Entries with commas between. -/
structure Its (E : EntF) (S : List Int → Prop) (c : Int) (d n : Nat) (x : List Int) (m : Nat) (K : List Nat) (M : List Nd) : Prop where
  pos : 0 < m
  le : m ≤ x.length
  cnt : n ≤ x.length
  tail : x.drop m = List.replicate (x.length - m) 32
  fit : Fit x
  hd : ∀ c ∈ ([32, 93, 125, 44] : List Int), x.getD 0 0 ≠ c
  loop : ∀ (b r : List Int) (q f g base : Nat) (ks : List Nat) (bl : List Nd), b.drop q = x ++ r → S r → d ≤ f → inLoop (E f b) b c (g + n) q base ks bl = After (E f b) b c g (q + m) (base + M.length) (ks ++ K.map (· + base)) (bl ++ mvL base (sfL q M))
  rep : ∀ y ∈ M, Rep x y
theorem iloop_succ (ent : Nat → Nat → InE) (b : List Int) (c : Int) (g s base : Nat) (ks k : List Nat) (bl l : List Nd) (n : Nat) (h : ent s base = .ok (k, l, n)) : inLoop ent b c (g + 1) s base ks bl = After ent b c g n (base + l.length) (ks ++ k) (bl ++ l) := by
  rw [inLoop, h]; rfl
theorem Ent.one {E : EntF} {S : List Int → Prop} {d : Nat} {x : List Int} {m : Nat} {K : List Nat} {M : List Nd} (h : Ent E S d x m K M) (c : Int) : Its E S c d 1 x m K M := by
  refine ⟨h.pos, h.le, by have := h.pos; have := h.le; omega, h.tail, h.fit, h.hd, fun b r q f g base ks bl hb hr hf => ?_, h.rep⟩
  rw [iloop_succ _ _ _ _ _ _ _ _ _ _ _ (h.step b r q f base hb hr hf), mvL_len, sfL_len]
theorem Its.more {E : EntF} {S : List Int → Prop} {c : Int} {d n : Nat} {x y : List Int} {m m2 : Nat} {K K2 : List Nat} {M M2 : List Nd} (h : Its E S c d (n + 1) x m K M) (h2 : Ent E S d y m2 K2 M2) (hS : ∀ u, S (44 :: u)) (hc : c ≠ 44) (k : Nat) :
    Its E S c d (n + 2) (x ++ 44 :: (List.replicate k 32 ++ y)) (x.length + 1 + k + m2) (K ++ K2.map (· + M.length)) (M ++ mvL M.length (sfL (x.length + 1 + k) M2)) := by
  have hl := h.le
  have hp := h.pos
  have hl2 := h2.le
  have hlen : (x ++ 44 :: (List.replicate k 32 ++ y)).length = x.length + 1 + k + y.length := by simp; omega
  refine ⟨by omega, by omega, by have := h.cnt; have := h2.pos; omega, ?_, ?_, fun z hz => ?_, fun b r q f g base ks bl hb hr hf => ?_, fun z hz => ?_⟩
  · rw [hlen, show x.length + 1 + k + m2 = x.length + (1 + (k + m2)) by omega, ← List.drop_drop, List.drop_left, Nat.add_comm 1, List.drop_succ_cons, ← List.drop_drop, List.drop_left' (by simp), h2.tail]
    congr 1; omega
  · have := (h.fit.append (asc_fit (44 :: List.replicate k 32) (by
      intro z hz
      rcases List.mem_cons.1 hz with rfl | hz
      · decide
      · have := (List.mem_replicate.1 hz).2; omega))).append h2.fit
    rwa [List.append_assoc, List.cons_append] at this
  · rw [getD_app (by omega)]; exact h.hd z hz
  · have hb1 : b.drop q = x ++ (44 :: (List.replicate k 32 ++ (y ++ r))) := by rw [hb]; simp
    rw [show g + (n + 2) = (g + 1) + (n + 1) by omega, h.loop b _ q f (g + 1) base ks bl hb1 (hS _) hf]
    have hm : b.drop (q + m) = List.replicate (x.length - m) 32 ++ (44 :: (List.replicate k 32 ++ (y ++ r))) := by
      rw [← List.drop_drop, hb1, List.drop_append_of_le_length hl, h.tail]
    have hi : inBlk b (q + m) = q + x.length := by rw [at_blk _ hm (by simp)]; omega
    have h44 := at_past hb1
    have hn := at_reps k (at_one h44)
    have hy0 : (y ++ r).getD 0 0 ≠ 32 := by rw [getD_app (by have := h2.pos; omega)]; exact h2.hd 32 (by simp)
    have hj : inBlk b (q + x.length + 1) = q + x.length + 1 + k := at_blk k (at_one h44) hy0
    unfold After
    rw [hi, at_get0 h44, List.getD_cons_zero, if_neg (fun e => hc e.symm), if_pos rfl, hj, iloop_succ _ _ _ _ _ _ _ _ _ _ _ (h2.step b r _ f _ hn hr hf)]
    rw [mvL_len, sfL_len, List.length_append, mvL_len, sfL_len, sfL_app, sfL_mv, sfL_sh, mvL_app, mvL_mv, List.map_append, List.map_map, List.append_assoc, List.append_assoc]
    have e1 : (fun z => z + base) ∘ (fun z => z + M.length) = fun z => z + (base + M.length) := by funext z; simp; omega
    have e2 : x.length + 1 + k + q = q + x.length + 1 + k := by omega
    rw [e1, e2, Nat.add_comm M.length base, show q + (x.length + 1 + k + m2) = q + x.length + 1 + k + m2 by omega, Nat.add_assoc base]
    rfl
  · rcases List.mem_append.1 hz with hz | hz
    · have := (h.rep z hz).put [] (44 :: (List.replicate k 32 ++ y))
      simpa [sfN] using this
    · obtain ⟨z1, hz1, rfl⟩ := List.mem_map.1 hz
      obtain ⟨z2, hz2, rfl⟩ := List.mem_map.1 hz1
      exact ((h2.rep z2 hz2).put' (x ++ 44 :: List.replicate k 32) [] (by simp) _ (by simp; omega)).mv _
/-- A node as a sequence's item. -/
def itemE : EntF := fun f b => inItem (inNode f b true)
def pairE : EntF := fun f b => inPair (inNode f b true) b
theorem Is.item {d : Nat} {x : List Int} {m : Nat} {L : List Nd} (h : Is d x m L) : Ent itemE Safe d x m [0] L := by
  refine ⟨h.pos, h.le, h.tail, h.fit, h.hd, fun b r q f base hb hr hf => ?_, h.rep⟩
  show inItem (inNode f b true) q base = _
  unfold inItem
  rw [node_base, h.node b r q f hb hr hf]
  have := h.pos
  simp only [mvR]
  rw [if_neg (by omega)]
  simp
/-- What stands behind an entry of a mapping: no blank. -/
def Flat (r : List Int) : Prop := r.getD 0 0 = 44 ∨ r.getD 0 0 = 125
theorem null_node {b r : List Int} {q : Nat} (hb : b.drop q = r) (hr : Flat r) (f base : Nat) : inNode f b true q base = .ok ([⟨0, 0, [33, 33, 110, 117, 108, 108], [], [], q, q, q, q, []⟩], q) := by
  obtain ⟨child, deep, e⟩ := node_G f b true q base
  have hg : b.getD q 0 = r.getD 0 0 := at_get0 hb
  have hx : ∀ z : Int, z ≠ 44 → z ≠ 125 → b.getD q 0 ≠ z := by
    intro z h1 h2 e
    rw [hg] at e
    rcases hr with h | h <;> omega
  have hs : startF (b.drop q) true = false := by
    rw [hb]
    unfold startF noF
    rcases hr with h | h <;> rw [h] <;> simp [flo]
  rw [e]
  unfold inNodeG
  rw [hb, takeP_no (bool_beg (by rw [← hg]; exact hx 33 (by decide) (by decide)) (by rw [← hg]; exact hx 38 (by decide) (by decide)))]
  simp only [if_true]
  rw [at_blk0 (t := r) (by rw [Nat.add_zero]; exact hb) (by rw [← hg]; exact hx 32 (by decide) (by decide)), Nat.add_zero]
  unfold inCont
  rw [if_neg (hx 42 (by decide) (by decide)), if_neg (hx 91 (by decide) (by decide)), if_neg (hx 123 (by decide) (by decide))]
  unfold inLeaf
  rw [if_neg (hx 34 (by decide) (by decide)), if_neg (hx 39 (by decide) (by decide)), if_neg (by rw [hs]; decide)]
  simp only [inDone]
  rw [if_neg (by simp [Nd.nil]), if_pos trivial]
  simp [inFin, inTag, Nd.nil]
theorem flat_safe {r : List Int} (h : Flat r) : Safe r := ⟨0, r, rfl, by rcases h with h | h; exact .inr (.inl h); exact .inr (.inr (.inr h))⟩
/-- A key, and what is behind it. -/
theorem pair_is {d : Nat} {k v : List Int} {j : Nat} (hk : PyK k) (hj : 1 ≤ j) (hv : v = [] ∨ ∃ m L, Is d v m L) : ∃ m K M, Ent pairE Flat d (k ++ 58 :: (List.replicate j 32 ++ v)) m K M := by
  obtain ⟨st, w, hs⟩ := pyS_is (pyK_S hk)
  have hkl := pyK_len hk
  have hlen : (k ++ 58 :: (List.replicate j 32 ++ v)).length = k.length + 1 + j + v.length := by simp; omega
  have hfit : ∀ {u : List Int}, Fit u → Fit (k ++ 58 :: (List.replicate j 32 ++ u)) := by
    intro u hu
    have := (hs.fit.append (asc_fit (58 :: List.replicate j 32) (by
      intro z hz
      rcases List.mem_cons.1 hz with rfl | hz
      · decide
      · have := (List.mem_replicate.1 hz).2; omega))).append hu
    rwa [List.append_assoc, List.cons_append] at this
  have hhd : ∀ c ∈ ([32, 93, 125, 44] : List Int), (k ++ 58 :: (List.replicate j 32 ++ v)).getD 0 0 ≠ c := by
    intro c hc
    rw [getD_app (by omega)]
    refine hs.hd c ?_
    simp only [List.mem_cons, List.not_mem_nil, or_false] at hc ⊢
    rcases hc with rfl | rfl | rfl | rfl <;> simp
  obtain ⟨j', rfl⟩ : ∃ j', j = j' + 1 := ⟨j - 1, by omega⟩
  have hkey : ∀ (b r : List Int) (q : Nat), b.drop q = (k ++ 58 :: (List.replicate (j' + 1) 32 ++ v)) ++ r → inKey b q = some (⟨1, st, inTag 1 st [] w, [], w, q, q + k.length, q, q, []⟩, q + k.length) ∧ inBlk b (q + k.length) = q + k.length ∧ inColon b (q + k.length) = true ∧ b.drop (q + k.length + 1) = List.replicate (j' + 1) 32 ++ (v ++ r) := by
    intro b r q hb
    have hb1 : b.drop q = k ++ (58 :: (List.replicate (j' + 1) 32 ++ (v ++ r))) := by rw [hb]; simp
    have h58 := at_past hb1
    refine ⟨?_, at_blk0 h58 (by simp), ?_, at_one h58⟩
    · unfold inKey
      rw [hs.leaf b _ q hb1 (by rw [List.replicate_succ]; exact ends_colon _)]
      simp only []
      rw [if_pos (by refine ⟨?_, by omega⟩; trivial)]
    · unfold inColon
      have g1 : b.getD (q + k.length) 0 = 58 := by rw [at_get0 h58]; rfl
      have g2 : b.getD (q + k.length + 1) 0 = 32 := by rw [at_getD h58 1, List.replicate_succ]; rfl
      rw [g1, g2]
      simp
  have hrk : Rep k (⟨1, st, inTag 1 st [] w, [], w, 0, k.length, 0, 0, []⟩ : Nd) := by
    have hpn : PIs [] 0 [] [] := by
      obtain ⟨n, tg, an, h⟩ := pyP_is .none
      rcases h.way with ⟨_, rfl, rfl, rfl⟩ | ⟨h1, _⟩
      · exact h
      · simp at h1
    exact (leaf_is hpn hs (by simp; omega) 0).rep _ (by simp)
  rcases hv with rfl | ⟨m, L, hv⟩
  · refine ⟨k.length + 1 + (j' + 1), [0, 1], [⟨1, st, inTag 1 st [] w, [], w, 0, k.length, 0, 0, []⟩, ⟨0, 0, [33, 33, 110, 117, 108, 108], [], [], k.length + 1, k.length + 1, 0, k.length + 1, []⟩], by omega, by rw [hlen]; omega, ?_, hfit ⟨[], rfl, by simp⟩, hhd, fun b r q f base hb hr hf => ?_, fun y hy => ?_⟩
    · rw [hlen, List.drop_eq_nil_of_le (by rw [hlen]; simp)]; simp
    · obtain ⟨h1, h2, h3, h4⟩ := hkey b r q hb
      rw [List.nil_append] at h4
      have hr32 : r.getD 0 0 ≠ 32 := by rcases hr with h | h <;> omega
      have h5 : inBlk b (q + k.length + 1) = q + k.length + 1 + (j' + 1) := at_blk _ h4 hr32
      show inPair (inNode f b true) b q base = _
      unfold inPair
      rw [h1]
      simp only [h2]
      rw [if_pos h3, h5, null_node (at_reps _ h4) hr f (base + 1)]
      simp only [beq_self_eq_true]
      simp [inVal, mvL, mvN, sfL, sfN, Nat.add_comm, Nat.add_left_comm]
      omega
    · simp only [List.mem_cons, List.not_mem_nil, or_false] at hy
      rcases hy with rfl | rfl
      · have := hrk.put [] (58 :: (List.replicate (j' + 1) 32 ++ []))
        simpa [sfN] using this
      · intro h; cases h
  · have hm := hv.pos
    have hml := hv.le
    refine ⟨k.length + 1 + (j' + 1) + m, [0, 1], ⟨1, st, inTag 1 st [] w, [], w, 0, k.length, 0, 0, []⟩ :: inVal (mvL 1 (sfL (k.length + 1 + (j' + 1)) L)) 0 (k.length + 1) false, by omega, by rw [hlen]; omega, ?_, hfit hv.fit, hhd, fun b r q f base hb hr hf => ?_, fun y hy => ?_⟩
    · rw [hlen, show k.length + 1 + (j' + 1) + m = k.length + (1 + ((j' + 1) + m)) by omega, ← List.drop_drop, List.drop_left, Nat.add_comm 1, List.drop_succ_cons, ← List.drop_drop, List.drop_left' (by simp), hv.tail]
      congr 1; omega
    · obtain ⟨h1, h2, h3, h4⟩ := hkey b r q hb
      have hr32 : (v ++ r).getD 0 0 ≠ 32 := by rw [getD_app (by omega)]; exact hv.hd 32 (by simp)
      have h5 : inBlk b (q + k.length + 1) = q + k.length + 1 + (j' + 1) := at_blk _ h4 hr32
      show inPair (inNode f b true) b q base = _
      unfold inPair
      rw [h1]
      simp only [h2]
      rw [if_pos h3, h5, node_base, hv.node b r _ f (at_reps _ h4) (flat_safe hr) hf]
      simp only [mvR]
      have hl : (q + k.length + 1 + (j' + 1) + m == q + k.length + 1 + (j' + 1)) = false := beq_eq_false_iff_ne.2 (by omega)
      rw [hl]
      have e1 : mvL base (sfL q ((⟨1, st, inTag 1 st [] w, [], w, 0, k.length, 0, 0, []⟩ : Nd) :: inVal (mvL 1 (sfL (k.length + 1 + (j' + 1)) L)) 0 (k.length + 1) false)) = (⟨1, st, inTag 1 st [] w, [], w, q, q + k.length, q, q, []⟩ : Nd) :: inVal (mvL (base + 1) (sfL (q + k.length + 1 + (j' + 1)) L)) q (q + k.length + 1) false := by
        have c1 : sfL q ((⟨1, st, inTag 1 st [] w, [], w, 0, k.length, 0, 0, []⟩ : Nd) :: inVal (mvL 1 (sfL (k.length + 1 + (j' + 1)) L)) 0 (k.length + 1) false) = (⟨1, st, inTag 1 st [] w, [], w, q, q + k.length, q, q, []⟩ : Nd) :: sfL q (inVal (mvL 1 (sfL (k.length + 1 + (j' + 1)) L)) 0 (k.length + 1) false) := by
          simp [sfL, sfN, Nat.add_comm]
        rw [c1, sh_val, sfL_mv, sfL_sh]
        have c2 : ∀ (y : Nd) (t : List Nd), y.kids = [] → mvL base (y :: t) = y :: mvL base t := by
          intro y t hy
          show mvN base y :: _ = _
          rw [mvN_nil _ _ hy]; rfl
        rw [c2 _ _ rfl, ← mv_val, mvL_mv, Nat.zero_add, Nat.add_comm 1 base, show k.length + 1 + (j' + 1) + q = q + k.length + 1 + (j' + 1) by omega, show k.length + 1 + q = q + k.length + 1 by omega]
      rw [e1, show q + (k.length + 1 + (j' + 1) + m) = q + k.length + 1 + (j' + 1) + m by omega]
      simp [Nat.add_comm]
    · rcases List.mem_cons.1 hy with rfl | hy
      · have := hrk.put [] (58 :: (List.replicate (j' + 1) 32 ++ v))
        simpa [sfN] using this
      · have hyr : ∀ z ∈ mvL 1 (sfL (k.length + 1 + (j' + 1)) L), Rep (k ++ 58 :: (List.replicate (j' + 1) 32 ++ v)) z := by
          intro z hz
          obtain ⟨z1, hz1, rfl⟩ := List.mem_map.1 hz
          obtain ⟨z2, hz2, rfl⟩ := List.mem_map.1 hz1
          exact ((hv.rep z2 hz2).put' (k ++ 58 :: List.replicate (j' + 1) 32) [] (by simp) _ (by simp; omega)).mv _
        generalize mvL 1 (sfL (k.length + 1 + (j' + 1)) L) = Q at hy hyr
        cases Q with
        | nil => cases hy
        | cons z t =>
          rcases List.mem_cons.1 hy with rfl | hy
          · exact hyr z (by simp)
          · exact hyr y (by simp [hy])
theorem pyI_is {d : Nat} (H : ∀ x, PyN d x → ∃ m L, Is d x m L) : ∀ {n : Nat} {l : List Int}, PyI (PyN d) n l → (n = 0 ∧ l = []) ∨ ∃ m K M, Its itemE Safe 93 d n l m K M := by
  intro n l h
  induction h with
  | nil => exact .inl ⟨rfl, rfl⟩
  | one x hx =>
    obtain ⟨m, L, hx⟩ := H x hx
    exact .inr ⟨_, _, _, hx.item.one 93⟩
  | more n l x k hl hx hk1 hk2 ih =>
    obtain ⟨m2, L2, hx⟩ := H x hx
    rcases ih with ⟨h0, _⟩ | ⟨m, K, M, ih⟩
    · omega
    · exact .inr ⟨_, _, _, ih.more hx.item (fun u => ⟨0, 44 :: u, rfl, .inr (.inl rfl)⟩) (by decide) k⟩
theorem pyE_is {d : Nat} (H : ∀ x, PyN d x → ∃ m L, Is d x m L) : ∀ {n : Nat} {l : List Int}, PyE (PyN d) n l → (n = 0 ∧ l = []) ∨ ∃ m K M, Its pairE Flat 125 d n l m K M := by
  have one : ∀ x, PyE1 (PyN d) x → ∃ m K M, Ent pairE Flat d x m K M := by
    rintro x ⟨k, v, j, hk, hv, h1, h2, rfl⟩
    refine pair_is hk h1 ?_
    rcases hv with rfl | hv
    · exact .inl rfl
    · exact .inr (H v hv)
  intro n l h
  induction h with
  | nil => exact .inl ⟨rfl, rfl⟩
  | one x hx =>
    obtain ⟨m, K, M, hx⟩ := one x hx
    exact .inr ⟨_, _, _, hx.one 125⟩
  | more n l x hl hx ih =>
    obtain ⟨m2, K2, M2, hx⟩ := one x hx
    rcases ih with ⟨h0, _⟩ | ⟨m, K, M, ih⟩
    · omega
    · exact .inr ⟨_, _, _, ih.more hx (fun u => .inl rfl) (by decide) 1⟩
/-- A whole collection. -/
theorem coll_is {E : EntF} {S : List Int → Prop} {c kd : Int} {d n : Nat} {p x : List Int} {np : Nat} {tg an : List Int} {m : Nat} {K : List Nat} {M : List Nd} (hp : PIs p np tg an) (o : Int) (ho : (o = 91 ∧ kd = 2 ∧ c = 93 ∧ E = itemE) ∨ (o = 123 ∧ kd = 3 ∧ c = 125 ∧ E = pairE)) (e0 e : Nat)
    (h : (n = 0 ∧ x = [] ∧ e = 0 ∧ K = [] ∧ M = []) ∨ (Its E S c d n x m K M ∧ ∀ r, S (List.replicate e 32 ++ c :: r))) :
    Is (d + 1) (p ++ o :: (List.replicate e0 32 ++ (x ++ (List.replicate e 32 ++ [c])))) (p.length + 1 + e0 + x.length + e + 1)
      (⟨kd, 7, inTag kd 7 tg [], an, [], 0, p.length + 1 + e0 + x.length + e + 1, 0, 0, K.map (· + 1)⟩ :: mvL 1 (sfL (p.length + 1 + e0) M)) := by
  have hc32 : c ≠ 32 := by rcases ho with ⟨_, _, rfl, _⟩ | ⟨_, _, rfl, _⟩ <;> decide
  have hlen : (p ++ o :: (List.replicate e0 32 ++ (x ++ (List.replicate e 32 ++ [c])))).length = p.length + 1 + e0 + x.length + e + 1 := by simp; omega
  refine ⟨by omega, by omega, by rw [hlen, List.drop_eq_nil_of_le (by omega)]; simp, ?_, fun z hz => ?_, by simp, fun b r q f hb hr hf => ?_, fun y hy => ?_⟩
  · have hsp : ∀ k, Fit (List.replicate k (32 : Int)) := fun k => asc_fit _ (by intro z hz; have := (List.mem_replicate.1 hz).2; omega)
    have hx : Fit x := by
      rcases h with ⟨_, rfl, _⟩ | ⟨h, _⟩
      · exact ⟨[], rfl, by simp⟩
      · exact h.fit
    have ho1 : Fit [o] := asc_fit _ (by intro z hz; simp at hz; rcases ho with ⟨rfl, _⟩ | ⟨rfl, _⟩ <;> omega)
    have hc1 : Fit [c] := asc_fit _ (by intro z hz; simp at hz; rcases ho with ⟨_, _, rfl, _⟩ | ⟨_, _, rfl, _⟩ <;> omega)
    have := hp.fit.append (ho1.append ((hsp e0).append (hx.append ((hsp e).append hc1))))
    exact this
  · rcases hp.way with ⟨rfl, _⟩ | ⟨hl, _⟩
    · rw [List.nil_append, List.getD_cons_zero]
      simp only [List.mem_cons, List.not_mem_nil, or_false] at hz
      rcases ho with ⟨rfl, _⟩ | ⟨rfl, _⟩ <;> omega
    · rw [getD_app (by omega)]; exact hp.hd z hz
  · obtain ⟨f', rfl⟩ : ∃ f', f = f' + 1 := ⟨f - 1, by omega⟩
    have hb1 : b.drop q = p ++ (o :: (List.replicate e0 32 ++ (x ++ (List.replicate e 32 ++ (c :: r))))) := by rw [hb]; simp
    have ho32 : o ≠ 32 ∧ o ≠ 33 ∧ o ≠ 38 ∧ o ≠ 42 := by rcases ho with ⟨rfl, _⟩ | ⟨rfl, _⟩ <;> decide
    have hq := at_past hb1
    have hg : b.getD (q + p.length) 0 = o := by rw [at_get0 hq]; rfl
    have hcoll : inColl (E f' b) b c (q + p.length) 1 = .ok (K.map (· + 1), mvL 1 (sfL (q + p.length + 1 + e0) M), q + (p.length + 1 + e0 + x.length + e + 1)) := by
      have h1 := at_one hq
      have hs1 := at_reps e0 h1
      unfold inColl
      rcases h with ⟨rfl, rfl, rfl, rfl, rfl⟩ | ⟨h, hS⟩
      · rw [List.nil_append, List.replicate_zero, List.nil_append] at h1 hs1
        rw [at_blk e0 h1 (by simpa using hc32), at_get0 hs1, List.getD_cons_zero, if_pos rfl]
        simp [mvL, sfL]; omega
      · have hxp : 0 < x.length := by have := h.pos; have := h.le; omega
        have h2 : (x ++ (List.replicate e 32 ++ (c :: r))).getD 0 0 = x.getD 0 0 := getD_app hxp
        have hxc : x.getD 0 0 ≠ c := h.hd c (by rcases ho with ⟨_, _, rfl, _⟩ | ⟨_, _, rfl, _⟩ <;> simp)
        rw [at_blk e0 h1 (by rw [h2]; exact h.hd 32 (by simp)), at_get0 hs1, h2, if_neg hxc]
        have hbl : n ≤ b.length + 1 := by
          have := congrArg List.length hs1
          rw [List.length_drop, List.length_append] at this
          have := h.cnt
          omega
        rw [show b.length + 1 = (b.length + 1 - n) + n by omega, h.loop b _ _ f' _ 1 [] [] hs1 (hS r) (by omega)]
        have hm : b.drop (q + p.length + 1 + e0 + m) = List.replicate (x.length - m) 32 ++ (List.replicate e 32 ++ c :: r) := by
          rw [← List.drop_drop, hs1, List.drop_append_of_le_length h.le, h.tail]
        rw [← List.append_assoc, List.replicate_append_replicate] at hm
        have hle := h.le
        have hi : inBlk b (q + p.length + 1 + e0 + m) = q + p.length + 1 + e0 + x.length + e := by rw [at_blk _ hm (by simpa using hc32)]; omega
        have hgc : b.getD (q + p.length + 1 + e0 + x.length + e) 0 = c := by
          have := at_get0 (at_reps _ hm)
          rw [show q + p.length + 1 + e0 + m + (x.length - m + e) = q + p.length + 1 + e0 + x.length + e by omega] at this
          rw [this]; rfl
        unfold After
        rw [hi, hgc, if_pos rfl, List.nil_append, List.nil_append, show q + p.length + 1 + e0 + x.length + e + 1 = q + (p.length + 1 + e0 + x.length + e + 1) by omega]
    have e1 : (if np = 0 then q + p.length else q) = q := by
      rcases hp.way with ⟨rfl, rfl, _⟩ | ⟨_, h⟩
      · rfl
      · rw [if_neg (by omega)]
    have e2 : sfL q ((⟨kd, 7, inTag kd 7 tg [], an, [], 0, p.length + 1 + e0 + x.length + e + 1, 0, 0, K.map (· + 1)⟩ : Nd) :: mvL 1 (sfL (p.length + 1 + e0) M)) = (⟨kd, 7, inTag kd 7 tg [], an, [], q, q + (p.length + 1 + e0 + x.length + e + 1), q, q, K.map (· + 1)⟩ : Nd) :: mvL 1 (sfL (q + p.length + 1 + e0) M) := by
      have : ∀ (y : Nd) (t : List Nd), sfL q (y :: t) = sfN q y :: sfL q t := fun _ _ => rfl
      rw [this, sfL_mv, sfL_sh, show p.length + 1 + e0 + q = q + p.length + 1 + e0 by omega]
      simp [sfN, Nat.add_comm]
    show inNodeG (inNode f' b true) false b true q 0 = _
    unfold inNodeG
    rw [hb1, hp.take _ (bool_beg (by simpa using ho32.2.1) (by simpa using ho32.2.2.1)) (by simpa using ho32.1)]
    simp only [if_true]
    rw [hp.blk b _ q hb1 (by simpa using ho32.1)]
    unfold inCont
    rw [hg, if_neg ho32.2.2.2, e2]
    rcases ho with ⟨rfl, rfl, rfl, rfl⟩ | ⟨rfl, rfl, rfl, rfl⟩
    · rw [if_pos rfl, if_neg (by decide)]
      have hc' : inColl (inItem (inNode f' b true)) b 93 (q + p.length) (0 + 1) = _ := hcoll
      rw [hc']
      simp only [inDone]
      rw [if_neg (by rintro ⟨h, _⟩; cases h), if_neg (by decide), e1]
      simp [inFin, Nd.nil]
    · rw [if_neg (by decide), if_pos rfl, if_neg (by decide)]
      have hc' : inColl (inPair (inNode f' b true) b) b 125 (q + p.length) (0 + 1) = _ := hcoll
      rw [hc']
      simp only [inDone]
      rw [if_neg (by rintro ⟨h, _⟩; cases h), if_neg (by decide), e1]
      simp [inFin, Nd.nil]
  · rcases List.mem_cons.1 hy with rfl | hy
    · intro hk
      rcases ho with ⟨_, rfl, _⟩ | ⟨_, rfl, _⟩ <;> cases hk
    · obtain ⟨z1, hz1, rfl⟩ := List.mem_map.1 hy
      obtain ⟨z2, hz2, rfl⟩ := List.mem_map.1 hz1
      rcases h with ⟨_, _, _, _, rfl⟩ | ⟨h, _⟩
      · cases hz2
      · exact ((h.rep z2 hz2).put' (p ++ o :: List.replicate e0 32) (List.replicate e 32 ++ [c]) (by simp) _ (by simp; omega)).mv _
theorem pyL_is {l : List Int} (h : PyL l) (d : Nat) : ∃ m L, Is d l m L := by
  rcases h with ⟨p, s, hp, hs, rfl⟩ | ⟨c, h1, h2, rfl⟩
  · have h1 := pyP_len hp
    have h2 := pyS_len hs
    obtain ⟨n, tg, an, hp⟩ := pyP_is hp
    obtain ⟨st, v, hs⟩ := pyS_is hs
    exact ⟨_, _, leaf_is hp hs (by rw [List.length_append]; omega) d⟩
  · exact ⟨_, _, alias_is c h1 h2 d⟩
/-- A play's text is a node. -/
theorem pyN_is : ∀ (d : Nat) (l : List Int), PyN d l → ∃ m L, Is d l m L
  | 0, l, h => pyL_is h 0
  | d + 1, l, h => by
    rcases h with h | ⟨p, its, n, e, hp, hn, hi, he, rfl⟩ | ⟨p, es, n, e, hp, hn, hi, he, rfl⟩
    · exact pyL_is h _
    · obtain ⟨np, tg, an, hp⟩ := pyP_is hp
      rcases pyI_is (pyN_is d) hi with ⟨rfl, rfl⟩ | ⟨m, K, M, h⟩
      · have := coll_is (E := itemE) (S := Safe) (d := d) (x := []) (m := 0) hp 91 (.inl ⟨rfl, rfl, rfl, rfl⟩) e 0 (.inl ⟨rfl, rfl, rfl, rfl, rfl⟩)
        exact ⟨_, _, by simpa using this⟩
      · have := coll_is hp 91 (.inl ⟨rfl, rfl, rfl, rfl⟩) 0 e (.inr ⟨h, fun r => ⟨e, 93 :: r, rfl, .inr (.inr (.inl rfl))⟩⟩)
        exact ⟨_, _, by simpa using this⟩
    · obtain ⟨np, tg, an, hp⟩ := pyP_is hp
      rcases pyE_is (pyN_is d) hi with ⟨rfl, rfl⟩ | ⟨m, K, M, h⟩
      · have := coll_is (E := pairE) (S := Flat) (d := d) (x := []) (m := 0) hp 123 (.inr ⟨rfl, rfl, rfl, rfl⟩) e 0 (.inl ⟨rfl, rfl, rfl, rfl, rfl⟩)
        exact ⟨_, _, by simpa using this⟩
      · have := coll_is hp 123 (.inr ⟨rfl, rfl, rfl, rfl⟩) e 0 (.inr ⟨h, fun r => .inr rfl⟩)
        exact ⟨_, _, by simpa using this⟩
end Go.Proofs.YtocjegmacpmpoaaGreatDoor
/-! ### InSpan -/
namespace Go.Proofs.YtocjegmacpmpoaaGreatDoor
open Go.RowKit
set_option linter.unusedVariables false
set_option maxRecDepth 100000

/-- Kids behind the node i, whose places lie one behind the other from last on, up to top. -/
def Chn (at_ : Nat → Option Nd) (i top : Nat) : Nat → List Nat → Prop
  | _, [] => True
  | last, k :: ks => ∃ y, i < k ∧ at_ k = some y ∧ last ≤ y.st ∧ y.en ≤ top ∧ Chn at_ i top y.en ks
theorem Chn.nil {f : Nat → Option Nd} {i top last : Nat} : Chn f i top last [] := trivial
theorem Chn.weak {f g : Nat → Option Nd} (hfg : ∀ k y, f k = some y → g k = some y) {i top top' : Nat} (ht : top ≤ top') : ∀ {ks : List Nat} {last last' : Nat}, last' ≤ last → Chn f i top last ks → Chn g i top' last' ks
  | [], _, _, _, _ => trivial
  | k :: ks, last, last', hl, h => by
    obtain ⟨y, h1, h2, h3, h4, h5⟩ := h
    exact ⟨y, h1, hfg _ _ h2, by omega, by omega, h5.weak hfg ht (Nat.le_refl _)⟩
theorem Chn.app {f : Nat → Option Nd} {i n s2 n2 : Nat} (hn : n ≤ s2) (hn2 : n ≤ n2) {k2 : List Nat} (h2 : Chn f i n2 s2 k2) : ∀ {ks : List Nat} {s : Nat}, s ≤ n → Chn f i n s ks → Chn f i n2 s (ks ++ k2)
  | [], s, hs, _ => h2.weak (fun _ _ h => h) (Nat.le_refl _) (by omega)
  | k :: ks, s, hs, h => by
    obtain ⟨y, h1, h2', h3, h4, h5⟩ := h
    exact ⟨y, h1, h2', h3, by omega, Chn.app hn hn2 h2 h4 h5⟩
def lkp (base : Nat) (l : List Nd) (k : Nat) : Option Nd := if base ≤ k then l[k - base]? else none
theorem lkp_cons {base : Nat} {l : List Nd} (z : Nd) {k : Nat} {y : Nd} (h : lkp (base + 1) l k = some y) : lkp base (z :: l) k = some y := by
  unfold lkp at h ⊢
  split at h
  · rw [if_pos (by omega), show k - base = (k - (base + 1)) + 1 by omega, List.getElem?_cons_succ]; exact h
  · cases h
theorem lkp_left {base : Nat} {l : List Nd} (m : List Nd) {k : Nat} {y : Nd} (h : lkp base l k = some y) : lkp base (l ++ m) k = some y := by
  unfold lkp at h ⊢
  split at h
  · rename_i hk
    rw [if_pos hk, List.getElem?_append_left (List.getElem?_eq_some_iff.1 h).1]; exact h
  · cases h
theorem lkp_right {base : Nat} {l : List Nd} (m : List Nd) {k : Nat} {y : Nd} (h : lkp (base + m.length) l k = some y) : lkp base (m ++ l) k = some y := by
  unfold lkp at h ⊢
  split at h
  · rw [if_pos (by omega), List.getElem?_append_right (by omega), show k - base - m.length = k - (base + m.length) by omega]; exact h
  · cases h
/-- Each node's Kids. -/
def Sps (base : Nat) (l : List Nd) (f : Nat → Option Nd) : Prop := ∀ (i : Nat) (x : Nd), l[i]? = some x → x.st ≤ x.en ∧ Chn f (base + i) x.en x.st x.kids
theorem Sps.weak {base : Nat} {l : List Nd} {f g : Nat → Option Nd} (hfg : ∀ k y, f k = some y → g k = some y) (h : Sps base l f) : Sps base l g := fun i x hi => ⟨(h i x hi).1, (h i x hi).2.weak hfg (Nat.le_refl _) (Nat.le_refl _)⟩
theorem Sps.nil (base : Nat) (f : Nat → Option Nd) : Sps base [] f := fun i x h => by simp at h
theorem Sps.cons {base : Nat} {l : List Nd} {f : Nat → Option Nd} {z : Nd} (h : Sps (base + 1) l f) (h1 : z.st ≤ z.en) (h2 : Chn f base z.en z.st z.kids) : Sps base (z :: l) f := by
  intro i x hi
  cases i with
  | zero => simp at hi; subst hi; exact ⟨h1, h2⟩
  | succ i =>
    rw [List.getElem?_cons_succ] at hi
    have := h i x hi
    rw [show base + 1 + i = base + (i + 1) by omega] at this
    exact this
theorem Sps.app {base : Nat} {l m : List Nd} {f : Nat → Option Nd} (h : Sps base l f) (h2 : Sps (base + l.length) m f) : Sps base (l ++ m) f := by
  intro i x hi
  rcases Nat.lt_or_ge i l.length with hl | hl
  · rw [List.getElem?_append_left hl] at hi; exact h i x hi
  · rw [List.getElem?_append_right hl] at hi
    have := h2 _ x hi
    rw [show base + l.length + (i - l.length) = base + i by omega] at this
    exact this
def SpC (child : Nat → Nat → InR) : Prop := ∀ s base l n, child s base = .ok (l, n) → s ≤ n ∧ (∀ y ∈ l, y.en ≤ n) ∧ Sps base l (lkp base l) ∧ ∃ x t, l = x :: t ∧ s ≤ x.st ∧ x.st ≤ x.en ∧ (n = s → x.kids = [])
def SpE (ent : Nat → Nat → InE) : Prop := ∀ s base ks l n, ent s base = .ok (ks, l, n) → s ≤ n ∧ (∀ y ∈ l, y.en ≤ n) ∧ Sps base l (lkp base l) ∧ ∀ i, i < base → Chn (lkp base l) i n s ks
theorem lkp_at {base : Nat} {l : List Nd} (j : Nat) {y : Nd} (h : l[j]? = some y) : lkp base l (base + j) = some y := by
  unfold lkp; rw [if_pos (by omega), show base + j - base = j by omega]; exact h
theorem item_sp {child : Nat → Nat → InR} (h : SpC child) : SpE (inItem child) := by
  intro s base ks l n he
  unfold inItem at he
  cases hc : child s base with
  | error e => rw [hc] at he; cases he
  | ok y =>
    obtain ⟨l', n'⟩ := y
    rw [hc] at he
    dsimp only at he
    split at he
    · cases he
    · simp only [Except.ok.injEq, Prod.mk.injEq] at he
      obtain ⟨rfl, rfl, rfl⟩ := he
      obtain ⟨h1, h2, h3, x, t, rfl, h4, h5, h6⟩ := h s base l' n' hc
      exact ⟨h1, h2, h3, fun i hi => ⟨x, hi, lkp_at (base := base) 0 rfl, h4, h2 x (by simp), trivial⟩⟩
theorem key_sp {b : List Int} {s : Nat} {k : Nd} {n : Nat} (h : inKey b s = some (k, n)) : k.st = s ∧ k.en = n ∧ s ≤ n ∧ k.kids = [] := by
  unfold inKey at h
  split at h
  · cases h
  · split at h
    · injection h with h; injection h with h1 h2; rw [← h1, ← h2]; exact ⟨rfl, rfl, by omega, rfl⟩
    · cases h
theorem pair_sp {child : Nat → Nat → InR} (h : SpC child) (b : List Int) : SpE (inPair child b) := by
  intro s base ks l n he
  unfold inPair at he
  cases hk : inKey b s with
  | none => rw [hk] at he; cases he
  | some kn =>
    obtain ⟨k, n1⟩ := kn
    rw [hk] at he
    dsimp only at he
    split at he
    · cases hc : child (inBlk b (inBlk b n1 + 1)) (base + 1) with
      | error e => rw [hc] at he; cases he
      | ok y =>
        obtain ⟨l', m⟩ := y
        rw [hc] at he
        simp only [Except.ok.injEq, Prod.mk.injEq] at he
        obtain ⟨rfl, rfl, rfl⟩ := he
        obtain ⟨k1, k2, k3, k4⟩ := key_sp hk
        obtain ⟨h1, h2, h3, x, t, rfl, h4, h5, h6⟩ := h _ _ l' m hc
        have g1 := blk_ge b n1
        have g2 := blk_ge b (inBlk b n1 + 1)
        obtain ⟨q, hq⟩ : ∃ q, inBlk b (inBlk b n1 + 1) = q := ⟨_, rfl⟩
        rw [hq] at h1 h4 h6 hc g2
        rw [hq]
        have hx2 := h2 x (by simp)
        obtain ⟨z, hz⟩ : ∃ z, ({ x with hd := s, mr := inBlk b n1 + 1, st := if (m == q) = true then inBlk b n1 + 1 else x.st, en := if (m == q) = true then inBlk b n1 + 1 else x.en } : Nd) = z := ⟨_, rfl⟩
        have hzk : z.kids = x.kids := by rw [← hz]
        have hz1 : n1 ≤ z.st ∧ z.st ≤ z.en ∧ z.en ≤ m ∧ (z.kids = [] ∨ (z.st = x.st ∧ z.en = x.en)) := by
          rw [← hz]
          dsimp only
          by_cases hm : m = q
          · rw [if_pos (by simpa using hm), if_pos (by simpa using hm)]
            exact ⟨by omega, by omega, by omega, .inl (h6 hm)⟩
          · rw [if_neg (by simpa using hm), if_neg (by simpa using hm)]
            exact ⟨by omega, h5, hx2, .inr ⟨rfl, rfl⟩⟩
        show _ ∧ (∀ y ∈ k :: ({ x with hd := s, mr := inBlk b n1 + 1, st := if (m == q) = true then inBlk b n1 + 1 else x.st, en := if (m == q) = true then inBlk b n1 + 1 else x.en } : Nd) :: t, _) ∧ Sps base (k :: ({ x with hd := s, mr := inBlk b n1 + 1, st := if (m == q) = true then inBlk b n1 + 1 else x.st, en := if (m == q) = true then inBlk b n1 + 1 else x.en } : Nd) :: t) (lkp base (k :: ({ x with hd := s, mr := inBlk b n1 + 1, st := if (m == q) = true then inBlk b n1 + 1 else x.st, en := if (m == q) = true then inBlk b n1 + 1 else x.en } : Nd) :: t)) ∧ ∀ i, i < base → Chn (lkp base (k :: ({ x with hd := s, mr := inBlk b n1 + 1, st := if (m == q) = true then inBlk b n1 + 1 else x.st, en := if (m == q) = true then inBlk b n1 + 1 else x.en } : Nd) :: t)) i m s [base, base + 1]
        rw [hz]
        have hkids : ∀ ks : List Nat, Chn (lkp (base + 1) (x :: t)) (base + 1) x.en x.st ks → Chn (lkp (base + 1) (x :: t)) (base + 1) x.en x.st ks := fun _ h => h
        -- the value's node stands where the child's stood: nobody's Kid is the first one
        have hlk : ∀ (i : Nat) (y : Nd), i ≠ 0 → lkp (base + 1) (x :: t) (base + 1 + i) = some y → lkp base (k :: z :: t) (base + 1 + i) = some y := by
          intro i y hi hy
          unfold lkp at hy ⊢
          rw [if_pos (by omega), show base + 1 + i - (base + 1) = (i - 1) + 1 by omega, List.getElem?_cons_succ] at hy
          rw [if_pos (by omega), show base + 1 + i - base = (i - 1) + 1 + 1 by omega, List.getElem?_cons_succ, List.getElem?_cons_succ]
          exact hy
        have hch : ∀ (ks : List Nat) (j top last : Nat), Chn (lkp (base + 1) (x :: t)) (base + 1 + j) top last ks → Chn (lkp base (k :: z :: t)) (base + 1 + j) top last ks := by
          intro ks
          induction ks with
          | nil => intro _ _ _ _; trivial
          | cons w ks ih =>
            intro j top last hh
            obtain ⟨y, e1, e2, e3, e4, e5⟩ := hh
            refine ⟨y, e1, ?_, e3, e4, ih _ _ _ e5⟩
            have := hlk (w - (base + 1)) y (by omega)
            rw [show base + 1 + (w - (base + 1)) = w by omega] at this
            exact this e2
        refine ⟨by omega, ?_, ?_, ?_⟩
        · intro y hy
          simp only [List.mem_cons] at hy
          rcases hy with rfl | rfl | hy
          · omega
          · exact hz1.2.2.1
          · exact h2 y (by simp [hy])
        · refine Sps.cons ?_ (by omega) (by rw [k4]; trivial)
          intro i y hi
          cases i with
          | zero =>
            simp at hi
            subst hi
            refine ⟨hz1.2.1, ?_⟩
            rcases hz1.2.2.2 with e | ⟨e1, e2⟩
            · rw [e]; trivial
            · rw [e1, e2, hzk]
              have := (h3 0 x rfl).2
              exact hch _ 0 _ _ this
          | succ i =>
            rw [List.getElem?_cons_succ] at hi
            have := h3 (i + 1) y (by rw [List.getElem?_cons_succ]; exact hi)
            exact ⟨this.1, hch _ _ _ _ this.2⟩
        · intro i hi
          refine ⟨k, hi, lkp_at (base := base) 0 rfl, by omega, by omega, z, by omega, lkp_at (base := base) 1 rfl, by omega, hz1.2.2.1, trivial⟩
    · cases he
theorem loop_sp {ent : Nat → Nat → InE} (h : SpE ent) (b : List Int) (c : Int) : ∀ (g s base : Nat) (ks : List Nat) (bl : List Nd) (K : List Nat) (L : List Nd) (n b0 s0 : Nat), base = b0 + bl.length → s0 ≤ s → (∀ y ∈ bl, y.en ≤ s) → Sps b0 bl (lkp b0 bl) → (∀ i, i < b0 → Chn (lkp b0 bl) i s s0 ks) →
    inLoop ent b c g s base ks bl = .ok (K, L, n) → s < n ∧ (∀ y ∈ L, y.en ≤ n) ∧ Sps b0 L (lkp b0 L) ∧ ∀ i, i < b0 → Chn (lkp b0 L) i n s0 K
  | 0, _, _, _, _, _, _, _, _, _, _, _, _, _, _, he => by cases he
  | g + 1, s, base, ks, bl, K, L, n, b0, s0, hb, hs, hy, hS, hC, he => by
    unfold inLoop at he
    cases hE : ent s base with
    | error e => rw [hE] at he; cases he
    | ok r =>
      obtain ⟨k, l, m⟩ := r
      rw [hE] at he
      dsimp only at he
      obtain ⟨h1, h2, h3, h4⟩ := h s base k l m hE
      have hg := blk_ge b m
      subst hb
      have hS' : Sps b0 (bl ++ l) (lkp b0 (bl ++ l)) := (hS.weak fun _ _ => lkp_left l).app (h3.weak fun _ _ => lkp_right bl)
      have hy' : ∀ y ∈ bl ++ l, y.en ≤ m := by
        intro y hm
        rcases List.mem_append.1 hm with hm | hm
        · have := hy y hm; omega
        · exact h2 y hm
      have hC' : ∀ i, i < b0 → Chn (lkp b0 (bl ++ l)) i m s0 (ks ++ k) := fun i hi =>
        Chn.app (Nat.le_refl s) h1 ((h4 i (by omega)).weak (fun _ _ => lkp_right bl) (Nat.le_refl _) (Nat.le_refl _)) hs ((hC i hi).weak (fun _ _ => lkp_left l) (Nat.le_refl _) (Nat.le_refl _))
      split at he
      · simp only [Except.ok.injEq, Prod.mk.injEq] at he
        obtain ⟨rfl, rfl, rfl⟩ := he
        exact ⟨by omega, fun y hm => by have := hy' y hm; omega, hS', fun i hi => (hC' i hi).weak (fun _ _ e => e) (by omega) (Nat.le_refl _)⟩
      · split at he
        · have hg2 := blk_ge b (inBlk b m + 1)
          obtain ⟨q1, q2⟩ := loop_sp h b c g _ _ _ _ K L n b0 s0 (by rw [List.length_append]; omega) (by omega) (fun y hm => by have := hy' y hm; omega) hS' (fun i hi => (hC' i hi).weak (fun _ _ e => e) (by omega) (Nat.le_refl _)) he
          exact ⟨by omega, q2⟩
        · cases he
theorem coll_sp {ent : Nat → Nat → InE} (h : SpE ent) (b : List Int) (c : Int) {s base : Nat} {K : List Nat} {L : List Nd} {n : Nat} (he : inColl ent b c s base = .ok (K, L, n)) : s < n ∧ (∀ y ∈ L, y.en ≤ n) ∧ Sps base L (lkp base L) ∧ ∀ i, i < base → Chn (lkp base L) i n s K := by
  unfold inColl at he
  have hg := blk_ge b (s + 1)
  split at he
  · simp only [Except.ok.injEq, Prod.mk.injEq] at he
    obtain ⟨rfl, rfl, rfl⟩ := he
    exact ⟨by omega, by simp, Sps.nil _ _, fun _ _ => trivial⟩
  · obtain ⟨q1, q2⟩ := loop_sp h b c _ _ _ _ _ K L n base s (by simp) (by omega) (by simp) (Sps.nil _ _) (fun _ _ => Chn.nil) he
    exact ⟨by omega, q2⟩
theorem cont_sp {child : Nat → Nat → InR} (h : SpC child) {deep : Bool} {b : List Int} {fl : Bool} {s base : Nat} {x : Nd} {l : List Nd} {m : Nat} (he : inCont child deep b fl s base = .ok (x, l, m)) :
    s ≤ m ∧ (∀ y ∈ l, y.en ≤ m) ∧ Sps base l (lkp base l) ∧ (∀ i, i < base → Chn (lkp base l) i m s x.kids) ∧ ((x.kids = [] ∧ l = []) ∨ (s < m ∧ x.kind ≠ 0)) := by
  unfold inCont at he
  split at he
  · split at he
    · simp only [Except.ok.injEq, Prod.mk.injEq] at he
      obtain ⟨rfl, rfl, rfl⟩ := he
      exact ⟨by omega, by simp, Sps.nil _ _, fun _ _ => by simp [Nd.nil, Chn], .inl ⟨rfl, rfl⟩⟩
    · cases he
  · split at he
    · split at he
      · cases he
      · cases hc : inColl (inItem child) b 93 s base with
        | error e => rw [hc] at he; cases he
        | ok r =>
          obtain ⟨K, L, n⟩ := r
          rw [hc] at he
          simp only [Except.ok.injEq, Prod.mk.injEq] at he
          obtain ⟨rfl, rfl, rfl⟩ := he
          obtain ⟨q1, q2, q3, q4⟩ := coll_sp (item_sp h) b 93 hc
          exact ⟨by omega, q2, q3, q4, .inr ⟨q1, by simp⟩⟩
    · split at he
      · split at he
        · cases he
        · cases hc : inColl (inPair child b) b 125 s base with
          | error e => rw [hc] at he; cases he
          | ok r =>
            obtain ⟨K, L, n⟩ := r
            rw [hc] at he
            simp only [Except.ok.injEq, Prod.mk.injEq] at he
            obtain ⟨rfl, rfl, rfl⟩ := he
            obtain ⟨q1, q2, q3, q4⟩ := coll_sp (pair_sp h b) b 125 hc
            exact ⟨by omega, q2, q3, q4, .inr ⟨q1, by simp⟩⟩
      · split at he
        · cases he
        · simp only [Except.ok.injEq, Prod.mk.injEq] at he
          obtain ⟨rfl, rfl, rfl⟩ := he
          exact ⟨by omega, by simp, Sps.nil _ _, fun _ _ => by simp [Nd.nil, Chn], .inl ⟨rfl, rfl⟩⟩
theorem nodeG_sp {child : Nat → Nat → InR} (h : SpC child) (deep : Bool) (b : List Int) (fl : Bool) : SpC (inNodeG child deep b fl) := by
  intro s base l n he
  unfold inNodeG at he
  split at he
  · obtain ⟨p, hp⟩ : ∃ p, Pr.takeP (b.drop s) = p := ⟨_, rfl⟩
    rw [hp] at he
    obtain ⟨s2, hs2⟩ : ∃ s2, inBlk b (s + p.2.2.1) = s2 := ⟨_, rfl⟩
    have hg := blk_ge b (s + p.2.2.1)
    rw [hs2] at he hg
    cases hc : inCont child deep b fl s2 (base + 1) with
    | error e => rw [hc] at he; cases he
    | ok r =>
      obtain ⟨x, L, m⟩ := r
      rw [hc] at he
      simp only [inDone] at he
      obtain ⟨q1, q2, q3, q4, q5⟩ := cont_sp h hc
      split at he
      · cases he
      · split at he
        · rename_i hk
          simp only [Except.ok.injEq, Prod.mk.injEq] at he
          obtain ⟨rfl, rfl⟩ := he
          rcases q5 with ⟨e1, rfl⟩ | ⟨_, e⟩
          · refine ⟨by omega, by simp [inFin], Sps.cons (Sps.nil _ _) (by simp [inFin]) (by simp [inFin, e1, Chn]), _, _, rfl, by simp [inFin], by simp [inFin], fun _ => by simp [inFin, e1]⟩
          · exact absurd hk e
        · simp only [Except.ok.injEq, Prod.mk.injEq] at he
          obtain ⟨rfl, rfl⟩ := he
          obtain ⟨u, hu⟩ : ∃ u, (if p.2.2.1 = 0 then s2 else s) = u := ⟨_, rfl⟩
          have hu1 : s ≤ u ∧ u ≤ s2 := by rw [← hu]; split <;> omega
          rw [hu]
          refine ⟨by omega, ?_, ?_, _, _, rfl, by simp [inFin]; omega, by simp [inFin]; omega, fun e => ?_⟩
          · intro y hy
            rcases List.mem_cons.1 hy with rfl | hy
            · simp [inFin]
            · exact q2 y hy
          · refine Sps.cons (q3.weak fun _ _ => lkp_cons _) (by simp [inFin]; omega) ?_
            exact (q4 base (by omega)).weak (fun _ _ => lkp_cons _) (Nat.le_refl _) (by simp [inFin]; omega)
          · rcases q5 with ⟨e1, _⟩ | ⟨e1, _⟩
            · simp [inFin, e1]
            · omega
  · cases he
theorem node_sp (b : List Int) : ∀ (f : Nat) (fl : Bool), SpC (inNode f b fl)
  | 0, fl => nodeG_sp (fun s base l n h => by cases h) true b fl
  | f + 1, fl => nodeG_sp (node_sp b f true) false b fl
end Go.Proofs.YtocjegmacpmpoaaGreatDoor
