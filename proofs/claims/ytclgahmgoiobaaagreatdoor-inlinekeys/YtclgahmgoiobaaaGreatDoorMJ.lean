/- Chapter 12: the law on keys: what is parsed there. · Chapter 12: what style writes is one scalar: plain facts. No program. · Chapter 12: what Best and Choose write is one scalar. No program. · Chapter 12: a text that is one scalar, parsed. -/
import Derived.Test.YtclgahmgoiobaaaGreatDoorMI
import Derived.Test.YtclgahmgoiobaaaGreatDoorMG
import Derived.Test.YtclgahmgoiobaaaGreatDoorMH
import Derived.Test.YtclgahmgoiobaaaGreatDoorME
set_option linter.unusedSimpArgs false
set_option linter.unusedVariables false
/-! ### InKeyL -/
namespace Go.Proofs.YtclgahmgoiobaaaGreatDoor
open Go.RowKit
set_option linter.unusedVariables false
theorem rep_app (n : Nat) : List.replicate n (107 : Int) ++ [107] = List.replicate (n + 1) 107 := by rw [List.replicate_succ']
def kyT (m : Bool) (n : Nat) : List Int := if m then 39 :: (List.replicate (n - 2) 107 ++ [39]) else List.replicate n 107
def kyB (m : Bool) (n : Nat) : Bool := match inParse (123 :: (kyT m n ++ [58, 32, 49, 125])) true with
  | .ok l => decide (n ≤ 128) && (l.length == 3 && (match l[1]? with | some x => x.st == 1 && x.en == 1 + n | none => false))
  | .error q => decide (128 < n) && q == 2
theorem ky_all : ∀ q : Fin 5, ∀ m : Bool, kyB m (126 + q.val) = true := by decide +kernel
set_option maxRecDepth 100000
set_option maxHeartbeats 4000000 in
theorem keys_end {w W : World} (B0 : Below w.heap.size w W) (HS : Shorts w) (HM : MaxL w) (m : Bool) (q : Nat) (hq : q < 5) (v : ByteArray) (hv : byt v = 123 :: (kyT m (126 + q) ++ [58, 32, 49, 125])) (hvs : v.size ≤ 1000) :
    Calls Tryz.prog 12 #[.string v, .bool true] W fun e w' => Below w.heap.size w w' ∧
      ((128 < 126 + q ∧ e = .returned (.tuple #[.slice none 0 0, .int .i64 2])) ∨
       (126 + q ≤ 128 ∧ ∃ g cap, 3 ≤ cap ∧ cap ≤ 9223372036854775807 ∧ e = .returned (.tuple #[.slice (some ⟨g, 0, none⟩) 3 cap, .int .i64 0]) ∧ w'.cell? ⟨g, 15, none⟩ = some (.int .i64 1) ∧ w'.cell? ⟨g, 16, none⟩ = some (.int .i64 ((1 + (126 + q) : Nat) : Int)))) := by
  have hdp := ky_all ⟨q, hq⟩ m
  simp only at hdp
  unfold kyB at hdp
  obtain ⟨r, hr⟩ : ∃ r, inParse (123 :: (kyT m (126 + q) ++ [58, 32, 49, 125])) true = r := ⟨_, rfl⟩
  rw [hr] at hdp
  refine (parse_at B0 HS HM v (by omega) true r (by rw [hv]; exact hr)).mono ?_
  intro e w1 h1
  cases r with
  | error z =>
    obtain ⟨rfl, hb1, _⟩ := h1
    simp only [Bool.and_eq_true, decide_eq_true_eq, beq_iff_eq] at hdp
    obtain ⟨h64, rfl⟩ := hdp
    exact ⟨hb1, .inl ⟨h64, rfl⟩⟩
  | ok l =>
    obtain ⟨vv, rfl, hL, hb1⟩ := h1
    simp only [Bool.and_eq_true, decide_eq_true_eq, beq_iff_eq] at hdp
    obtain ⟨h64, hln, hx⟩ := hdp
    obtain ⟨g, cap, rfl, hc1, hc2, hc⟩ := hL.look (by omega)
    rcases hy : l[1]? with _ | x
    · rw [hy] at hx; cases hx
    · rw [hy] at hx
      have hx' : x.st = 1 ∧ x.en = 1 + (126 + q) := by simpa using hx
      have c5 := hc 1 x 5 _ hy (by omega) rfl
      have c6 := hc 1 x 6 _ hy (by omega) rfl
      rw [hln] at hc1 ⊢
      rw [hx'.1] at c5
      rw [hx'.2] at c6
      exact ⟨hb1, .inr ⟨h64, g, cap, hc1, hc2, rfl, c5, c6⟩⟩
end Go.Proofs.YtclgahmgoiobaaaGreatDoor
/-! ### InSty -/
namespace Go.Proofs.YtclgahmgoiobaaaGreatDoor
open Go.RowKit
set_option linter.unusedVariables false
set_option maxRecDepth 100000

theorem inF_fine : ∀ (f : Nat) (zs : List Int), zs.length ≤ f → Byte zs → inF false f zs = true → Fine zs := by
  intro f
  induction f with
  | zero =>
    intro zs h1 _ _
    have : zs = [] := List.eq_nil_of_length_eq_zero (by omega)
    subst this
    exact ⟨[], rfl, by simp⟩
  | succ f ih =>
    intro zs h1 hb h
    simp only [inF] at h
    split at h
    · rename_i h0; subst h0; exact ⟨[], rfl, by simp⟩
    · split at h
      · cases h
      · rename_i h0 hbad
        rcases hr : runeF zs with ⟨r, j, ok⟩
        unfold badL at hbad
        rw [hr] at hbad h
        simp only [Bool.or_eq_true, Bool.and_eq_true, not_or, Bool.not_eq_true', Bool.not_eq_false, beq_iff_eq, not_and] at hbad
        obtain ⟨⟨⟨⟨b1, b2⟩, b3⟩, b4⟩, b5⟩ := hbad
        subst b1
        obtain ⟨hok, hj1, hj2, hu⟩ := utf_runeF zs hb r j hr
        obtain ⟨rs, hrs, hall⟩ := ih (zs.drop j.toNat) (by rw [List.length_drop]; omega) (hb.drop _) h
        refine ⟨r :: rs, by rw [List.flatMap_cons, ← hrs, hu, List.take_append_drop], ?_⟩
        intro q hq
        rcases List.mem_cons.1 hq with rfl | hq
        · exact ⟨hok, b2, fun e => by simp_all, b3, b4⟩
        · exact hall q hq
theorem chk_fine : ∀ (rs : List Int) (f : Nat) (k : Int), (∀ r ∈ rs, okR r = true ∧ prt r = true ∧ r ≠ 9 ∧ r ≠ 10 ∧ r ≠ 13) → (rs.flatMap utfF).length ≤ f → chk f (rs.flatMap utfF) k = (0, 0) := by
  intro rs
  induction rs with
  | nil => intro f k _ _; cases f <;> simp [chk]
  | cons r rs ih =>
    intro f k h hl
    obtain ⟨g1, g2, g3, g4, g5⟩ := h r (by simp)
    have hu := runeF_utf r g1 (rs.flatMap utfF)
    have hn := utfF_len r
    rw [List.flatMap_cons] at hl ⊢
    rw [List.length_append] at hl
    cases f with
    | zero => omega
    | succ f =>
      have hne : utfF r ++ rs.flatMap utfF ≠ [] := by
        intro e
        have := congrArg List.length e
        rw [List.length_append, List.length_nil] at this; omega
      have hbad : badAt (utfF r ++ rs.flatMap utfF) = false := by
        unfold badAt
        rw [hu]
        simp only [g2, Bool.not_true, Bool.false_or, beq_eq_false_iff_ne.2 g5, Bool.false_and]
      simp only [chk, if_neg hne, hbad, hu, Int.toNat_natCast, List.drop_left]
      exact ih f _ (fun q hq => h q (by simp [hq])) (by omega)
theorem fine_unmarked {zs : List Int} (h : Fine zs) : mrkC zs = false ∧ (zs.take 3 == [239, 187, 191]) = false := by
  have key : zs.take 3 ≠ [239, 187, 191] := by
    intro e
    obtain ⟨t, rfl⟩ : ∃ t, zs = 239 :: 187 :: 191 :: t := by
      match zs, e with
      | a :: b :: c :: t, e => simp at e; obtain ⟨rfl, rfl, rfl⟩ := e; exact ⟨t, rfl⟩
    obtain ⟨rs, hrs, hall⟩ := h
    cases rs with
    | nil => simp at hrs
    | cons r rs =>
      obtain ⟨g1, g2, _⟩ := hall r (by simp)
      have hu := runeF_utf r g1 (rs.flatMap utfF)
      rw [← List.flatMap_cons, ← hrs] at hu
      have h3 : runeF (239 :: 187 :: 191 :: t) = (65279, 3, true) := by
        simp only [runeF, List.length_cons]
        rw [if_neg (by simp [ldN]; omega)]
        rfl
      rw [h3] at hu
      injection hu with hu
      subst hu
      simp [prt] at g2
  refine ⟨?_, beq_eq_false_iff_ne.2 key⟩
  cases hm : mrkC zs with
  | false => rfl
  | true =>
    unfold mrkC at hm
    simp only [Bool.and_eq_true, decide_eq_true_eq, beq_iff_eq] at hm
    exfalso
    match zs, hm, key with
    | a :: b :: c :: t, hm, key => simp at hm; obtain ⟨⟨rfl, rfl⟩, rfl⟩ := hm; exact key rfl
    | [], hm, _ => simp at hm
    | [a], hm, _ => simp at hm
    | [a, b], hm, _ => simp at hm
theorem text_fine {zs : List Int} (h : Fine zs) (hl : zs.length ≤ 65536) : inText zs = true := by
  obtain ⟨h1, h2⟩ := fine_unmarked h
  have h10 : zs.contains 10 = false := by
    cases hc : zs.contains 10
    · rfl
    · rw [List.contains_iff_mem] at hc; exact absurd rfl (fine_byte h 10 hc).2.1
  unfold inText checkF
  rw [if_neg (by omega), h1, h2, h10]
  obtain ⟨rs, rfl, hall⟩ := h
  rw [if_neg (by decide), chk_fine rs _ 0 hall (Nat.le_refl _)]
  rfl
theorem takeP_no {l : List Int} (h : Pr.begF l = false) : Pr.takeP l = ([], [], 0, true) := Pr.goP_stop _ l 0 0 [] [] h
/-- A text in double quotes is one scalar. -/
theorem parse_quoted {zs p : List Int} (hb : Byte zs) (h : putD zs = some p) (hl : p.length ≤ 65536) (fl : Bool) :
    inParse p fl = .ok [⟨1, 3, [33, 33, 115, 116, 114], [], zs, 0, p.length, 0, 0, []⟩] := by
  have ht := text_fine (fine_put hb h) hl
  have hq := take_put hb h []
  rw [List.append_nil] at hq
  obtain ⟨y, hy, rfl⟩ := put_some h
  have e1 : Pr.takeP ((34 :: (y ++ [34])).drop 0) = ([], [], 0, true) := takeP_no (by rfl)
  have e2 : inBlk (34 :: (y ++ [34])) (0 + 0) = 0 := by unfold inBlk; rw [List.drop_zero, blk_cons, if_neg (by decide)]
  have e3 : inLeaf (34 :: (y ++ [34])) fl 0 = some (1, 3, zs, (34 :: (y ++ [34])).length) := by
    unfold inLeaf
    rw [if_pos (by rfl), List.drop_zero, hq]; rfl
  unfold inParse
  rw [if_pos ht]
  have e4 : inNode 64 (34 :: (y ++ [34])) fl 0 0 = .ok ([⟨1, 3, [33, 33, 115, 116, 114], [], zs, 0, (34 :: (y ++ [34])).length, 0, 0, []⟩], (34 :: (y ++ [34])).length) := by
    show inNodeG _ _ _ _ _ _ = _
    unfold inNodeG
    rw [e1]
    simp only [if_true]
    rw [e2]
    unfold inCont
    rw [if_neg (by rw [List.getD_cons_zero]; decide), if_neg (by rw [List.getD_cons_zero]; decide), if_neg (by rw [List.getD_cons_zero]; decide), e3]
    simp only [inDone]
    rw [if_neg (by decide), if_neg (by decide)]
    simp [inFin, inTag, Nd.nil]
  rw [e4]
  simp only []
  rw [if_neg (by simp)]
/-- A tag, a blank, a text in double quotes: one scalar of that tag. -/
theorem parse_tagged {wd zs p : List Int} (hg : Pr.begF wd = true) (ha : ∀ z ∈ wd, 33 ≤ z ∧ z ≤ 126) (hw : Pr.withF [] [] wd = (wd, [], true)) (h33 : wd ≠ [33]) (hb : Byte zs) (h : putD zs = some p) (hl : (wd ++ 32 :: p).length ≤ 65536) (fl : Bool) :
    inParse (wd ++ 32 :: p) fl = .ok [⟨1, 3, wd, [], zs, 0, (wd ++ 32 :: p).length, 0, 0, []⟩] := by
  have hf : Fine (wd ++ 32 :: p) := by
    have := (asc_fine (wd ++ [32]) (by intro z hz; rcases List.mem_append.1 hz with hz | hz; have := ha z hz; omega; simp at hz; omega)).append (fine_put hb h)
    rwa [List.append_assoc] at this
  have ht := text_fine hf hl
  have hq := take_put hb h []
  rw [List.append_nil] at hq
  obtain ⟨y, hy, rfl⟩ := put_some h
  have hn : wd ≠ [] := by intro e; subst e; cases hg
  have hn1 : 0 < wd.length := List.length_pos_iff.2 hn
  obtain ⟨b, hbb⟩ : ∃ b, wd ++ 32 :: 34 :: (y ++ [34]) = b := ⟨_, rfl⟩
  have e1 : Pr.takeP (b.drop 0) = (wd, [], wd.length, true) := by
    rw [List.drop_zero, ← hbb]
    exact (Pr.take_one wd hg (fun z hz => by have := ha z hz; omega) _ _ hw _ ⟨rfl, by simp⟩).1
  have d0 : b.drop wd.length = 32 :: 34 :: (y ++ [34]) := by rw [← hbb, List.drop_left]
  have e2 : inBlk b (0 + wd.length) = wd.length + 1 := by
    unfold inBlk; rw [Nat.zero_add, d0, blk_cons, if_pos rfl, blk_cons, if_neg (by decide)]
  have d1 : b.drop (wd.length + 1) = 34 :: (y ++ [34]) := by rw [← List.drop_drop, d0]; rfl
  have g1 : b.getD (wd.length + 1) 0 = 34 := by
    have := congrArg (fun l => l.getD 0 0) d1
    simp only [List.getD_eq_getElem?_getD, List.getElem?_drop, Nat.add_zero] at this
    rw [List.getD_eq_getElem?_getD, this]; rfl
  have hlen : b.length = wd.length + 1 + (34 :: (y ++ [34])).length := by rw [← hbb]; simp; omega
  have e3 : inLeaf b fl (wd.length + 1) = some (1, 3, zs, (34 :: (y ++ [34])).length) := by
    unfold inLeaf
    rw [if_pos g1, d1, hq]; rfl
  rw [hbb] at ht ⊢
  unfold inParse
  rw [if_pos ht]
  have e4 : inNode 64 b fl 0 0 = .ok ([⟨1, 3, wd, [], zs, 0, b.length, 0, 0, []⟩], b.length) := by
    show inNodeG _ _ _ _ _ _ = _
    unfold inNodeG
    rw [e1]
    simp only [if_true]
    rw [e2]
    unfold inCont
    rw [g1, if_neg (by decide), if_neg (by decide), if_neg (by decide), e3]
    simp only [inDone]
    rw [if_neg (by rintro ⟨h, _⟩; cases h), if_neg (by decide), ← hlen]
    rw [if_neg (show ¬ wd.length = 0 by omega)]
    simp [inFin, inTag, Nd.nil, hn, h33]
  rw [e4]
  simp only []
  rw [if_neg (by omega)]
/-- A plain text is one scalar. -/
theorem parse_plain {zs : List Int} {fl : Bool} (hb : Byte zs) (h : validF zs fl = true) (hl : zs.length ≤ 65536) :
    inParse zs fl = .ok [⟨1, 1, nums (resF (u8s zs)), [], zs, 0, zs.length, 0, 0, []⟩] := by
  unfold validF at h
  simp only [Bool.and_eq_true, decide_eq_true_eq] at h
  obtain ⟨h0, h1, h2⟩ := h
  have ht := text_fine (inF_fine _ zs (Nat.le_refl _) hb h1) hl
  have hs : startF zs fl = true := by
    cases hs : startF zs fl with
    | true => rfl
    | false => rw [lenF_no hs] at h2; omega
  obtain ⟨hno, _⟩ := start_first hs
  unfold noF at hno
  simp only [Bool.or_eq_false_iff] at hno
  obtain ⟨⟨⟨⟨_, n1⟩, n2⟩, n3⟩, _⟩ := hno
  have hx : ∀ c : Int, (blk c || flo c || oth c) = true → zs.getD 0 0 ≠ c := by
    rintro c hc rfl
    rw [n1, n2, n3] at hc; cases hc
  have x32 := hx 32 (by decide)
  have x33 := hx 33 (by decide)
  have x34 := hx 34 (by decide)
  have x38 := hx 38 (by decide)
  have x39 := hx 39 (by decide)
  have x42 := hx 42 (by decide)
  have x91 := hx 91 (by decide)
  have x123 := hx 123 (by decide)
  have e1 : Pr.takeP (zs.drop 0) = ([], [], 0, true) := by
    rw [List.drop_zero]
    apply takeP_no
    cases zs with
    | nil => rfl
    | cons a t =>
      simp only [List.getD_cons_zero] at x33 x38
      simp [Pr.begF, x33, x38]
  have e2 : inBlk zs (0 + 0) = 0 := by
    unfold inBlk
    rw [List.drop_zero]
    cases zs with
    | nil => rfl
    | cons a t =>
      simp only [List.getD_cons_zero] at x32
      rw [blk_cons, if_neg x32]
  have e3 : inLeaf zs fl 0 = some (1, 1, zs, zs.length) := by
    unfold inLeaf
    rw [if_neg x34, if_neg x39, List.drop_zero, if_pos hs, h2, List.take_length]
  unfold inParse
  rw [if_pos ht]
  have e4 : inNode 64 zs fl 0 0 = .ok ([⟨1, 1, nums (resF (u8s zs)), [], zs, 0, zs.length, 0, 0, []⟩], zs.length) := by
    show inNodeG _ _ _ _ _ _ = _
    unfold inNodeG
    rw [e1]
    simp only [if_true]
    rw [e2]
    unfold inCont
    rw [if_neg x42, if_neg x91, if_neg x123, e3]
    simp only [inDone]
    rw [if_neg (by decide), if_neg (by decide)]
    simp [inFin, inTag, Nd.nil]
  rw [e4]
  simp only []
  rw [if_neg (by omega)]
end Go.Proofs.YtclgahmgoiobaaaGreatDoor
/-! ### InSty2 -/
namespace Go.Proofs.YtclgahmgoiobaaaGreatDoor
open Go.RowKit
set_option linter.unusedVariables false
set_option maxRecDepth 100000

theorem inF_put : ∀ (f : Nat) (zs : List Int), zs.length ≤ f → Byte zs → inF false f zs = true → ∃ y, pq zs = some y := by
  intro f
  induction f with
  | zero =>
    intro zs h1 _ _
    have : zs = [] := List.eq_nil_of_length_eq_zero (by omega)
    subst this
    exact ⟨_, pq_nil⟩
  | succ f ih =>
    intro zs h1 hb h
    simp only [inF] at h
    split at h
    · rename_i h0; subst h0; exact ⟨_, pq_nil⟩
    · rename_i h0
      split at h
      · cases h
      · rename_i hbad
        rcases hr : runeF zs with ⟨r, j, ok⟩
        unfold badL at hbad
        rw [hr] at hbad h
        simp only [Bool.or_eq_true, not_or, Bool.not_eq_true', Bool.not_eq_false] at hbad
        obtain ⟨⟨⟨⟨b1, _⟩, _⟩, _⟩, _⟩ := hbad
        subst b1
        obtain ⟨hok, hj1, hj2, hu⟩ := utf_runeF zs hb r j hr
        obtain ⟨y, hy⟩ := ih (zs.drop j.toNat) (by rw [List.length_drop]; omega) (hb.drop _) h
        exact ⟨_, by rw [pq_good zs h0 r j hr, hy]; rfl⟩
theorem u8s_bytS (s : ByteArray) : u8s (byt s) = s.toList := by
  rw [← u8s_list, strOfNums_byt]
theorem nums_list (s : ByteArray) : nums s.toList = byt s := by rw [byt_list]; rfl
theorem one_plain {tag s : ByteArray} {fl : Bool} (h : readF tag s fl = true) (hl : s.size ≤ 65536) : inParse (byt s) fl = .ok [⟨1, 1, byt tag, [], byt s, 0, s.size, 0, 0, []⟩] := by
  unfold readF at h
  simp only [Bool.and_eq_true, beq_iff_eq] at h
  rw [parse_plain (byt_byte s) h.1 (by rw [byt_len]; exact hl), u8s_bytS, h.2, nums_list, byt_len]
theorem one_put {s p : ByteArray} (h : putA s = some p) (hl : p.size ≤ 65536) (fl : Bool) : inParse (byt p) fl = .ok [⟨1, 3, [33, 33, 115, 116, 114], [], byt s, 0, p.size, 0, 0, []⟩] := by
  rw [parse_quoted (byt_byte s) (putA_some h) (by rw [byt_len]; exact hl), byt_len]
theorem read_put {tag s : ByteArray} {fl : Bool} (h : readF tag s fl = true) : ∃ p, putA s = some p := by
  unfold readF validF at h
  simp only [Bool.and_eq_true, decide_eq_true_eq] at h
  obtain ⟨y, hy⟩ := inF_put _ (byt s) (Nat.le_refl _) (byt_byte s) h.1.2.1
  cases hp : putA s with
  | some p => exact ⟨p, rfl⟩
  | none =>
    have := putA_none.1 hp
    unfold putD at this
    rw [hy] at this; cases this
theorem one_choose {s : ByteArray} {fl : Bool} (hp : ∃ p, putA s = some p) (hl : s.size ≤ 6000) : ∃ st m, inParse (byt (chooseF s fl)) fl = .ok [⟨1, st, byt strT, [], byt s, 0, m, 0, 0, []⟩] := by
  obtain ⟨p, hp⟩ := hp
  unfold chooseF
  cases hr : readF strT s fl with
  | true => rw [if_pos rfl]; exact ⟨1, _, one_plain hr (by omega)⟩
  | false =>
    rw [if_neg (by decide), hp]
    have := (putA_size hp).2
    exact ⟨3, _, one_put hp (by omega) fl⟩
def tag7 : List ByteArray := [⟨#[33, 33, 115, 116, 114]⟩, ⟨#[33, 33, 105, 110, 116]⟩, ⟨#[33, 33, 102, 108, 111, 97, 116]⟩, ⟨#[33, 33, 98, 111, 111, 108]⟩, ⟨#[33, 33, 110, 117, 108, 108]⟩, ⟨#[33, 120]⟩, ⟨#[33, 33, 121]⟩]
theorem tag7_ok : ∀ t ∈ tag7, Pr.begF (byt t) = true ∧ (∀ z ∈ byt t, 33 ≤ z ∧ z ≤ 126) ∧ Pr.withF [] [] (byt t) = (byt t, [], true) ∧ byt t ≠ [33] ∧ t.size ≤ 7 := by
  intro t ht
  simp only [tag7, List.mem_cons, List.not_mem_nil, or_false] at ht
  rcases ht with rfl | rfl | rfl | rfl | rfl | rfl | rfl <;> exact ⟨by decide, by decide, by decide, by decide, by decide⟩
theorem best_one {tag s t : ByteArray} {fl : Bool} (ht : tag ∈ tag7) (hs : s.size ≤ 6000) (h : bestF tag s fl = some t) :
    (∃ st m, inParse (byt t) fl = .ok [⟨1, st, byt tag, [], byt s, 0, m, 0, 0, []⟩]) ∧ (∃ st m, inParse (byt (chooseF s fl)) fl = .ok [⟨1, st, byt strT, [], byt s, 0, m, 0, 0, []⟩]) := by
  unfold bestF at h
  split at h
  · rename_i hts
    subst hts
    unfold someF at h
    split at h
    · cases h
    · rename_i h0
      injection h with h
      subst h
      have hp : ∃ p, putA s = some p := by
        cases hp : putA s with
        | some p => exact ⟨p, rfl⟩
        | none =>
          cases hr : readF strT s fl with
          | true => obtain ⟨p, hq⟩ := read_put hr; rw [hp] at hq; cases hq
          | false => unfold chooseF at h0; rw [hr, hp] at h0; exact absurd rfl h0
      exact ⟨one_choose hp hs, one_choose hp hs⟩
  · split at h
    · rename_i hr
      injection h with h
      subst h
      exact ⟨⟨1, _, one_plain hr (by omega)⟩, one_choose (read_put hr) hs⟩
    · cases hp : putA s with
      | none => rw [hp] at h; cases h
      | some p =>
        rw [hp] at h
        simp only [Option.map_some, Option.some.injEq] at h
        subst h
        refine ⟨⟨3, (byt tag ++ 32 :: byt p).length, ?_⟩, one_choose ⟨p, hp⟩ hs⟩
        have := (putA_size hp).2
        obtain ⟨g1, g2, g3, g4, g5⟩ := tag7_ok tag ht
        have hb : byt (tag ++ ⟨#[32]⟩ ++ p) = byt tag ++ 32 :: byt p := by rw [byt_append, byt_append, List.append_assoc]; rfl
        rw [hb]
        exact parse_tagged g1 g2 g3 g4 (byt_byte s) (putA_some hp) (by rw [List.length_append, List.length_cons, byt_len, byt_len]; omega) fl
end Go.Proofs.YtclgahmgoiobaaaGreatDoor
/-! ### InSty3 -/
namespace Go.Proofs.YtclgahmgoiobaaaGreatDoor
open Go.RowKit
set_option linter.unusedVariables false
set_option maxRecDepth 100000

theorem parse_one {w W : World} (hb : Below w.heap.size w W) (hS : Shorts w) (hM : MaxL w) (u : ByteArray) (hu : u.size ≤ 1000000) (fl : Bool) (tg v : ByteArray)
    (h : ∃ st m, inParse (byt u) fl = .ok [⟨1, st, byt tg, [], byt v, 0, m, 0, 0, []⟩]) :
    Calls Tryz.prog 12 #[.string u, .bool fl] W fun e w' => ∃ g cap, e = .returned (.tuple #[.slice (some ⟨g, 0, none⟩) 1 cap, .int .i64 0]) ∧ 1 ≤ cap ∧ cap ≤ 9223372036854775807 ∧
      w'.cell? ⟨g, 0, none⟩ = some (.int .i64 1) ∧ w'.cell? ⟨g, 2, none⟩ = some (.string tg) ∧ w'.cell? ⟨g, 3, none⟩ = some (.string ⟨#[]⟩) ∧ w'.cell? ⟨g, 4, none⟩ = some (.string v) ∧ Below w.heap.size w w' := by
  obtain ⟨st, m, h⟩ := h
  refine (parse_at hb hS hM u hu fl _ h).mono ?_
  rintro e w1 ⟨x, rfl, hL, hb1⟩
  obtain ⟨g, cap, rfl, h1, h2, hc⟩ := hL.look (by simp)
  have c0 := hc 0 _ 0 _ rfl (by omega) rfl
  have c2 := hc 0 _ 2 _ rfl (by omega) rfl
  have c3 := hc 0 _ 3 _ rfl (by omega) rfl
  have c4 := hc 0 _ 4 _ rfl (by omega) rfl
  simp only [strOfNums_byt] at c2 c4
  exact ⟨g, cap, rfl, h1, h2, c0, c2, c3, c4, hb1⟩
theorem tag7_at : ∀ k : Nat, k < 7 → ∃ d : ByteArray, tag7[k]? = some d ∧ d ∈ tag7 := by
  intro k hk
  have : k < tag7.length := hk
  exact ⟨_, List.getElem?_eq_getElem this, List.getElem_mem this⟩
end Go.Proofs.YtclgahmgoiobaaaGreatDoor
