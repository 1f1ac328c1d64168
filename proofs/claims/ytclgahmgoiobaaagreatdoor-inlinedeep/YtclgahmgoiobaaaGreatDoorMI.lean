/- The reader's item, pair. · The reader's collection. · The reader's collection, with coll_item for its entries. · The reader's collection, with coll_pair for its entries. · The reader's content. · The reader's node: its contract. · inline.Take, lineOfText, Parse. · Chapter 12: what the laws share: a list of nodes looked at, the document's example. -/
import Derived.Test.YtclgahmgoiobaaaGreatDoorMH
import Derived.Test.YtclgahmgoiobaaaGreatDoorME
import Derived.StillTailTactics
set_option linter.unusedSimpArgs false
set_option linter.unusedVariables false
/-! ### InEnt -/
namespace Go.Proofs.YtclgahmgoiobaaaGreatDoor
open Go.RowKit
set_option linter.unusedVariables false
set_option maxRecDepth 100000

/-- What an entry (an item, a pair) leaves: its parent has more Kids, the list more nodes. -/
def EntP (w : World) (F : Fr) (R : Nat) (A : Option Addr) (n c : Nat) (P : List NK) (i : Nat) (x : Nd) (r : InE) (e : Ending) (W' : World) : Prop :=
  match r with
  | .error k => e = .returned (.int .i64 k) ∧ Below w.heap.size w W' ∧ k ≠ 0
  | .ok (ks, l, m) => e = .returned (.int .i64 0) ∧ ∃ v' k' Q, Rd w F R A n c W' m v' (P.set i ({ x with kids := x.kids ++ ks }, k') ++ Q) ∧ lst Q = l
def EntC (w : World) (F : Fr) (R : Nat) (A : Option Addr) (n c : Nat) (fn : FuncId) (ent : Nat → Nat → InE) (d : Int) : Prop :=
  ∀ (W : World) (s : Nat) (v : Value) (P : List NK) (i : Nat) (x : Nd) (k : Value), Rd w F R A n c W s v P → P[i]? = some (x, k) → P.length ≤ s + 1 → x.kids.length ≤ s + 1 →
    Calls Tryz.prog fn #[.pointer (some ⟨R, 0, none⟩), .int .i64 (i : Int), .int .i64 d] W (EntP w F R A n c P i x (ent s P.length))
set_option maxHeartbeats 2000000 in
theorem item_at {w : World} {F : Fr} {R : Nat} {A : Option Addr} {n c : Nat} {b : List Int} {f : Nat} (E : Env w A n c b) (C : NodeC w F R A n c b f) (d : Int) (hd0 : 0 ≤ d) (hd1 : d ≤ 1000000) (hf : (64 - d).toNat = f) :
    EntC w F R A n c 117 (inItem (inNode f b true)) d := by
  intro W s v P i x k h hp hn hk
  have HC := Lib.hid (child_at E C h hp hn hk d hd0 hd1 hf)
  obtain ⟨l, hl⟩ : ∃ l, P.length = l := ⟨_, rfl⟩
  rw [hl] at HC ⊢
  have HL := Lib.hid hl
  obtain ⟨r, hr⟩ : ∃ r, inItem (inNode f b true) s l = r := ⟨_, rfl⟩
  rw [hr]
  unfold inItem at hr
  obtain ⟨r2, hr2⟩ : ∃ r2, inNode f b true s l = r2 := ⟨_, rfl⟩
  rw [hr2] at HC hr
  have HR := Lib.hid hr
  clear h E C hp hn hk hd0 hd1 hf hl hr hr2
  go_enter Tryz.func117, Tryz.ntmps117
  go_wp2_with fail
  refine HC.out.mono ?_
  intro e w1 h1
  cases r2 with
  | error q =>
    obtain ⟨rfl, hb1, hq0⟩ := h1
    have hr2 : r = .error q := HR.out.symm
    subst hr2
    have HB1 := Lib.hid hb1
    have HQ0 := Lib.hid hq0
    clear hb1 HC hq0
    go_wp2_with fail
    go_ret
    exact ⟨rfl, HB1.out, HQ0.out⟩
  | ok y =>
    obtain ⟨nl, m⟩ := y
    obtain ⟨rfl, v1, k', Q, h1, hq⟩ := h1
    have H1 := Lib.hid h1
    have HQ := Lib.hid hq
    clear h1 hq HC
    by_cases hms : m = s
    · have hb : (m == s) = true := beq_iff_eq.2 hms
      have hr : r = .error 2 := by rw [← HR.out]; exact if_pos hms
      subst hr
      rw [hb]
      clear hms hb HR
      go_wp2_with fail
      go_ret
      exact ⟨rfl, H1.out.bel, by decide⟩
    · have hb : (m == s) = false := beq_eq_false_iff_ne.2 hms
      have hr : r = .ok ([l], nl, m) := by rw [← HR.out]; exact if_neg hms
      subst hr
      rw [hb]
      clear hms hb HR
      go_wp2_with fail
      go_ret
      exact ⟨rfl, v1, k', Q, by rw [← HL.out]; exact H1.out, HQ.out⟩
theorem colon_at {w : World} {W : World} {F : Fr} {R : Nat} {A : Option Addr} {n c s : Nat} {v : Value} {P : List NK} {b : List Int} (E : Env w A n c b) (h : Rd w F R A n c W s v P) (t : Bool) (ht : inColon b s = t) :
    Calls Tryz.prog 137 #[.pointer (some ⟨R, 0, none⟩)] W fun e W' => e = .returned (.bool t) ∧ ∃ s', Rd w F R A n c W' s' v P ∧ (t = true → s' = s + 1) := by
  subst ht
  by_cases hq : b.getD s 0 = 58
  · have hlt := getD_lt (b := b) (k := s) (by rw [hq]; decide)
    rw [E.len] at hlt
    by_cases h1 : s + 1 = n
    · have hc : inColon b s = true := by unfold inColon; rw [hq, E.len, h1]; simp
      rw [hc]
      exact (colon_b1 E h hq h1).mono fun e W' ⟨g1, g2⟩ => ⟨g1, _, g2, fun _ => rfl⟩
    · have hc : inColon b s = [32, 44, 125].contains (b.getD (s + 1) 0) := by
        unfold inColon; rw [hq, E.len, beq_eq_false_iff_ne.2 h1]; rfl
      rw [hc]
      exact (colon_b2 E h hq (by omega)).mono fun e W' ⟨g1, g2⟩ => ⟨g1, _, g2, fun _ => rfl⟩
  · have hc : inColon b s = false := by unfold inColon; rw [beq_eq_false_iff_ne.2 hq]; rfl
    rw [hc]
    exact (colon_a E h hq).mono fun e W' ⟨g1, g2⟩ => ⟨g1, _, g2, fun h => by cases h⟩
theorem pair_lists {P : List NK} {i : Nat} {x : Nd} {k k' k2 : Value} {key : NK} {l : Nat} (hl : P.length = l) (hp : P[i]? = some (x, k)) :
    (moreKid P i (x, k) k' ++ [key])[i]? = some ({ x with kids := x.kids ++ [l] }, k') ∧
    moreKid (moreKid P i (x, k) k' ++ [key]) i ({ x with kids := x.kids ++ [l] }, k') k2 = P.set i ({ x with kids := x.kids ++ [l, l + 1] }, k2) ++ [key] := by
  have hi := (List.getElem?_eq_some_iff.1 hp).1
  subst hl
  constructor
  · unfold moreKid
    rw [List.getElem?_append_left (by simpa using hi), List.getElem?_set_self hi]
  · unfold moreKid
    simp only [List.length_append, List.length_set, List.length_singleton, List.append_assoc, List.cons_append, List.nil_append]
    rw [List.set_append_left _ _ (by simpa using hi), List.set_set]
set_option maxHeartbeats 4000000 in
theorem pair_at {w : World} {F : Fr} {R : Nat} {A : Option Addr} {n c : Nat} {b : List Int} {f : Nat} (E : Env w A n c b) (C : NodeC w F R A n c b f) (d : Int) (hd0 : 0 ≤ d) (hd1 : d ≤ 1000000) (hf : (64 - d).toNat = f) :
    EntC w F R A n c 118 (inPair (inNode f b true) b) d := by
  intro W s v P i x k h hp hn hk
  have hsm := E.small
  have hs := h.hs
  have c1 := h.st.c1
  have HK := Lib.hid (key_at E h hp (by omega) (by show x.kids.length ≤ _; omega))
  obtain ⟨l, hl⟩ : ∃ l, P.length = l := ⟨_, rfl⟩
  rw [hl] at hn ⊢
  have HL := Lib.hid hl
  have HP := Lib.hid hp
  have HE := Lib.hid E
  have HC := Lib.hid C
  have HF := Lib.hid hf
  have hks := fun x m (hx : inKey b s = some (x, m)) => key_size (b := b) (s := s) (by rw [E.len]; exact hs) hx
  obtain ⟨r, hr⟩ : ∃ r, inPair (inNode f b true) b s l = r := ⟨_, rfl⟩
  rw [hr]
  obtain ⟨o, ho⟩ : ∃ o, inKey b s = o := ⟨_, rfl⟩
  rw [ho] at HK hks
  unfold inPair at hr
  rw [ho] at hr
  clear h E C hp hl hf ho
  cases o with
  | none =>
    obtain rfl : r = .error 2 := hr.symm
    clear hr hks
    go_enter Tryz.func118, Tryz.ntmps118
    go_wp2_with fail
    refine HK.out.mono ?_
    rintro e w1 ⟨rfl, hb1⟩
    have HB1 := Lib.hid hb1
    clear hb1 HK
    go_wp2_with fail
    go_ret
    exact ⟨rfl, HB1.out, by decide⟩
  | some xm =>
    obtain ⟨kx, n0⟩ := xm
    have hks := hks kx n0 rfl
    rw [HE.out.len] at hks
    simp only [] at hr
    obtain ⟨t, ht⟩ : ∃ t, inBlk b n0 = t := ⟨_, rfl⟩
    rw [ht] at hr
    have ht0 := blk_ge b n0
    rw [ht] at ht0
    have HT := Lib.hid ht
    clear ht
    obtain ⟨col, hcol⟩ : ∃ q, inColon b t = q := ⟨_, rfl⟩
    rw [hcol] at hr
    have HCOL := Lib.hid hcol
    clear hcol
    cases col with
    | false =>
      obtain rfl : r = .error 2 := by rw [← hr]; rfl
      clear hr
      go_enter Tryz.func118, Tryz.ntmps118
      go_wp2_with fail
      refine HK.out.mono ?_
      rintro e w1 ⟨rfl, v1, k', h1⟩
      have H1 := Lib.hid h1
      clear h1 HK
      go_wp2_with fail
      refine (blanks_at HE.out H1.out t HT.out).mono ?_
      rintro e w2 ⟨rfl, h2⟩
      have H2 := Lib.hid h2
      clear h2 H1
      go_wp2_with fail
      refine (colon_at HE.out H2.out false HCOL.out).mono ?_
      rintro e w3 ⟨rfl, s', h3, _⟩
      have H3 := Lib.hid h3
      clear h3 H2
      go_wp2_with fail
      go_ret
      exact ⟨rfl, H3.out.bel, by decide⟩
    | true =>
      rw [if_pos rfl] at hr
      have htl := colon_lt HCOL.out
      rw [HE.out.len] at htl
      obtain ⟨s2, hs2⟩ : ∃ s2, inBlk b (t + 1) = s2 := ⟨_, rfl⟩
      rw [hs2] at hr
      have hs20 := blk_ge b (t + 1)
      rw [hs2] at hs20
      have HS2 := Lib.hid hs2
      clear hs2
      obtain ⟨q, hq⟩ : ∃ q, l + 1 = q := ⟨_, rfl⟩
      rw [hq] at hr
      obtain ⟨r2, hr2⟩ : ∃ r2, inNode f b true s2 q = r2 := ⟨_, rfl⟩
      rw [hr2] at hr
      have HR2 := Lib.hid hr2
      have HR := Lib.hid hr
      have HQ := Lib.hid hq
      clear hr2 hr
      go_enter Tryz.func118, Tryz.ntmps118
      go_wp2_with fail
      refine HK.out.mono ?_
      rintro e w1 ⟨rfl, v1, k', h1⟩
      obtain ⟨pl1, pl2⟩ := pair_lists (k' := k') (k2 := k') (key := (kx, Value.slice none 0 0)) HL.out HP.out
      have PL2 := Lib.hid (fun k2 => (pair_lists (k' := k') (k2 := k2) (key := (kx, Value.slice none 0 0)) HL.out HP.out).2)
      have pl3 : (moreKid P i (x, k) k' ++ [(kx, Value.slice none 0 0)]).length = q := by rw [List.length_append, more_len, HL.out, List.length_singleton, HQ.out]
      obtain ⟨P1, hP1⟩ : ∃ P1, moreKid P i (x, k) k' ++ [(kx, Value.slice none 0 0)] = P1 := ⟨_, rfl⟩
      rw [hP1] at h1 pl1 pl3
      have HP1 := Lib.hid hP1
      have PL1 := Lib.hid pl1
      have PL3 := Lib.hid pl3
      have H1 := Lib.hid h1
      clear h1 HK hP1 pl1 pl2 pl3 hq
      go_wp2_with fail
      refine (blanks_at HE.out H1.out t HT.out).mono ?_
      rintro e w2 ⟨rfl, h2⟩
      have H2 := Lib.hid h2
      clear h2 H1
      go_wp2_with fail
      refine (colon_at HE.out H2.out true HCOL.out).mono ?_
      rintro e w3 ⟨rfl, s', h3, hs'⟩
      obtain rfl := hs' rfl
      have r1 := h3.st.c1
      have H3 := Lib.hid h3
      clear h3 H2 hs'
      rw [show ((t + 1 : Nat) : Int) = (t : Int) + 1 by omega] at r1
      go_wp2_with fail
      refine (blanks_at HE.out H3.out s2 HS2.out).mono ?_
      rintro e w4 ⟨rfl, h4⟩
      have H4 := Lib.hid h4
      clear h4 H3 r1
      go_wp2_with fail
      have hch := child_at HE.out HC.out H4.out PL1.out (by rw [PL3.out, ← HQ.out]; omega) (by show (x.kids ++ [l]).length ≤ _; rw [List.length_append, List.length_singleton]; omega) d hd0 hd1 HF.out
      rw [PL3.out, HR2.out] at hch
      refine hch.mono ?_
      intro e w5 h5
      cases r2 with
      | error qe =>
        obtain ⟨rfl, hb5, hq0⟩ := h5
        have hne : (qe != 0) = true := bne_iff_ne.2 hq0
        have HB5 := Lib.hid hb5
        have HQ0 := Lib.hid hq0
        clear hb5 hq0 hch
        go_wp2_with fail
        go_ret
        rw [← HR.out]
        exact ⟨rfl, HB5.out, HQ0.out⟩
      | ok y =>
        obtain ⟨nl, m⟩ := y
        obtain ⟨rfl, v5, k2, Q, h5, hlq⟩ := h5
        rw [PL3.out]
        have hnl := (node_size b f true s2 q nl m (by rw [HE.out.len]; exact H4.out.hs) HR2.out).2.2.1
        rw [← HP1.out, PL2.out k2] at h5
        rw [HQ.out] at h5
        have ha : (P.set i ({ x with kids := x.kids ++ [l, q] }, k2) ++ [(kx, Value.slice none 0 0)]).length = q := by rw [List.length_append, List.length_set, HL.out, List.length_singleton, HQ.out]
        obtain ⟨q0, Qt, rfl⟩ : ∃ q0 Qt, Q = q0 :: Qt := by
          cases Q with
          | nil => rw [← hlq] at hnl; simp [lst] at hnl
          | cons a t => exact ⟨a, t, rfl⟩
        obtain ⟨PA, hPA⟩ : ∃ PA, P.set i ({ x with kids := x.kids ++ [l, q] }, k2) ++ [(kx, Value.slice none 0 0)] = PA := ⟨_, rfl⟩
        rw [hPA] at h5 ha
        have hat : (PA ++ q0 :: Qt)[q]? = some q0 := by rw [List.getElem?_append_right (by omega), ha, Nat.sub_self]; rfl
        have hset : ∀ y y' : NK, (PA ++ y :: Qt).set q y' = PA ++ y' :: Qt := fun y y' => by rw [List.set_append_right _ _ (by omega), ha, Nat.sub_self]; rfl
        obtain ⟨g, cap, rfl, hg1, hg2, hg3, hg4⟩ := h5.form (by rw [List.length_append, List.length_cons]; omega)
        obtain ⟨l5, hl5⟩ : ∃ l5, (PA ++ q0 :: Qt).length = l5 := ⟨_, rfl⟩
        have hql : (q : Int) < (l5 : Int) := by rw [← hl5, List.length_append, ha, List.length_cons]; omega
        rw [hl5] at h5 hg1
        have y5 := h5.cell hl5 hat 5 _ rfl
        have y6 := h5.cell hl5 hat 6 _ rfl
        have y7 := h5.cell hl5 hat 7 _ rfl
        have y8 := h5.cell hl5 hat 8 _ rfl
        have f5 := h5.frozen hl5 (q * 10 + 5)
        have f6 := h5.frozen hl5 (q * 10 + 6)
        have f7 := h5.frozen hl5 (q * 10 + 7)
        have f8 := h5.frozen hl5 (q * 10 + 8)
        have r2 := h5.st.c2
        obtain ⟨h7, l7, p7⟩ := h5.set hl5 hat (p' := ({ q0.1 with hd := s }, q0.2)) 7 (by omega) (.int .i64 (s : Int)) rfl rfl rfl
        obtain ⟨h8, l8, p8⟩ := h7.set l7 p7 (p' := ({ q0.1 with hd := s, mr := t + 1 }, q0.2)) 8 (by omega) (.int .i64 ((t : Int) + 1)) rfl rfl rfl
        obtain ⟨h9, l9, p9⟩ := h8.set l8 p8 (p' := ({ q0.1 with hd := s, mr := t + 1, st := t + 1 }, q0.2)) 5 (by omega) (.int .i64 ((t : Int) + 1)) rfl rfl rfl
        obtain ⟨h10, l10, p10⟩ := h9.set l9 p9 (p' := ({ q0.1 with hd := s, mr := t + 1, st := t + 1, en := t + 1 }, q0.2)) 6 (by omega) (.int .i64 ((t : Int) + 1)) rfl rfl rfl
        simp only [List.set_set, hset] at h8 h10
        have H8 := Lib.hid h8
        have H10 := Lib.hid h10
        have HPA := Lib.hid hPA
        have HLQ := Lib.hid hlq
        clear h5 h7 h8 h9 h10 l7 l8 l9 l10 p7 p8 p9 p10 hPA hlq hch hset hat hnl ha hl5
        by_cases hms : m = s2
        · have hb : (m == s2) = true := beq_iff_eq.2 hms
          have hb' : ((m == s2) : Bool) = true := hb
          rw [hb]
          clear hms
          go_wp2_with fail
          go_ret
          rw [← HR.out]
          refine ⟨rfl, .slice (some ⟨g, 0, none⟩) l5 cap, k2, (kx, .slice none 0 0) :: ({ q0.1 with hd := s, mr := t + 1, st := t + 1, en := t + 1 }, q0.2) :: Qt, ?_, ?_⟩
          · have := H10.out
            rw [← HPA.out, List.append_assoc] at this
            exact this
          · rw [← HLQ.out, hb']; rfl
        · have hb : (m == s2) = false := beq_eq_false_iff_ne.2 hms
          have hb' : ((m == s2) : Bool) = false := hb
          rw [hb]
          clear hms
          go_wp2_with fail
          go_ret
          rw [← HR.out]
          refine ⟨rfl, .slice (some ⟨g, 0, none⟩) l5 cap, k2, (kx, .slice none 0 0) :: ({ q0.1 with hd := s, mr := t + 1 }, q0.2) :: Qt, ?_, ?_⟩
          · have := H8.out
            rw [← HPA.out, List.append_assoc] at this
            exact this
          · rw [← HLQ.out, hb']; rfl
end Go.Proofs.YtclgahmgoiobaaaGreatDoor
/-! ### InColl -/
namespace Go.Proofs.YtclgahmgoiobaaaGreatDoor
open Go.RowKit
set_option linter.unusedVariables false
set_option maxRecDepth 100000

/-- What collection leaves, in place of the last node of P0 ++ [nilK]. -/
def CollP (w : World) (F : Fr) (R : Nat) (A : Option Addr) (n c : Nat) (P0 : List NK) (kd : Int) (r : InE) (e : Ending) (W' : World) : Prop :=
  match r with
  | .error k => e = .returned (.int .i64 k) ∧ Below w.heap.size w W' ∧ k ≠ 0
  | .ok (ks, l, m) => e = .returned (.int .i64 0) ∧ ∃ v' k' Q, Rd w F R A n c W' m v' (P0 ++ ({ Nd.nil with kind := kd, style := 7, kids := ks }, k') :: Q) ∧ lst Q = l
/-- The entry's call, by its function's value. -/
def entV (R : Nat) (fn : FuncId) : Value := .func (.func fn) #[.pointer (some ⟨R, 0, none⟩)] #[]
set_option maxHeartbeats 1000000 in
theorem coll_deep {w : World} {F : Fr} {R : Nat} {A : Option Addr} {n c : Nat} {W : World} {s : Nat} {v : Value} {P : List NK} (h : Rd w F R A n c W s v P) (i : Nat) (kd d x : Int) (hd : 64 ≤ d) (fv : Value) :
    Calls Tryz.prog 116 #[.pointer (some ⟨R, 0, none⟩), .int .i64 (i : Int), .int .i64 kd, .int .i64 d, .int .u8 x, fv] W fun e W' => e = .returned (.int .i64 3) ∧ Below w.heap.size w W' := by
  have HB := Lib.hid h.bel
  clear h
  go_enter Tryz.func116, Tryz.ntmps116
  go_wp2_with fail
  go_ret
  exact ⟨rfl, HB.out⟩
theorem coll_lists {P0 Q Q2 : List NK} {y z : NK} {l : Nat} (hl : P0.length = l) : (P0 ++ y :: Q)[l]? = some y ∧ (P0 ++ y :: Q).set l z ++ Q2 = P0 ++ z :: (Q ++ Q2) := by
  subst hl
  constructor
  · rw [List.getElem?_append_right (Nat.le_refl _), Nat.sub_self]; rfl
  · rw [List.set_append_right _ _ (Nat.le_refl _), Nat.sub_self, List.append_assoc]; rfl
theorem loop_succ (ent : Nat → Nat → InE) (b : List Int) (c : Int) (g s base : Nat) (ks : List Nat) (bl : List Nd) : inLoop ent b c (g + 1) s base ks bl = (match ent s base with
    | .error e => .error e
    | .ok (k, l, n) =>
      if b.getD (inBlk b n) 0 = c then .ok (ks ++ k, bl ++ l, inBlk b n + 1)
      else if b.getD (inBlk b n) 0 = 44 then inLoop ent b c g (inBlk b (inBlk b n + 1)) (base + l.length) (ks ++ k) (bl ++ l)
      else .error 2) := rfl
end Go.Proofs.YtclgahmgoiobaaaGreatDoor
/-! ### InCollI -/
namespace Go.Proofs.YtclgahmgoiobaaaGreatDoor
open Go.RowKit
set_option linter.unusedVariables false
set_option maxRecDepth 100000

set_option maxHeartbeats 4000000 in
theorem coll_item {w : World} {F : Fr} {R : Nat} {A : Option Addr} {n c : Nat} {b : List Int} (E : Env w A n c b) (ent : Nat → Nat → InE) (hsz : SizeE b ent) (hkl : ∀ s base k l n, s ≤ b.length → ent s base = .ok (k, l, n) → k.length ≤ l.length) (d : Int) (hd0 : 0 ≤ d) (hd : d < 64) (C : EntC w F R A n c 117 ent (d + 1))
    {W : World} {s : Nat} {v : Value} {P0 : List NK} {l : Nat} (hl : P0.length = l) (h : Rd w F R A n c W s v (P0 ++ [nilK])) (hn : l ≤ s + 1) (kd x : Int) (hx0 : x ≠ 0) (hx44 : x ≠ 44) (hs : s < n) :
    Calls Tryz.prog 116 #[.pointer (some ⟨R, 0, none⟩), .int .i64 (l : Int), .int .i64 kd, .int .i64 d, .int .u8 x, entV R 117] W (CollP w F R A n c P0 kd (inColl ent b x s (l + 1))) := by
  have hsm := E.small
  have HE := Lib.hid E
  have HC := Lib.hid C
  have HZ := Lib.hid hsz
  have HKL := Lib.hid hkl
  have HL := Lib.hid hl
  have hp : (P0 ++ [nilK])[l]? = some nilK := last_at hl
  obtain ⟨g, cap, rfl, hg1, hg2, hg3, hg4⟩ := h.form (by simp)
  obtain ⟨l1, hl1⟩ : ∃ l1, l + 1 = l1 := ⟨_, rfl⟩
  have hm : (P0 ++ [nilK]).length = l1 := by simp [hl, hl1]
  rw [hm] at h hg1
  rw [hl1]
  have HL1 := Lib.hid hl1
  have hRg : R ≠ g := by
    have := h.st.offv
    intro e; exact this (by rw [e]; rfl)
  have h1 : Rd w F R A n c W.drew s (.slice (some ⟨g, 0, none⟩) l1 cap) (P0 ++ [nilK]) := h.below (Below.refl _ _).drew
  have y0 := h.cell hm hp 0 _ rfl
  have y1 := h.cell hm hp 1 _ rfl
  have f0 := h.frozen hm (l * 10)
  have f1 := h.frozen hm (l * 10 + 1)
  rw [Nat.add_zero] at y0
  have c2 := h.st.c2
  have dl : (l : Int) < (l1 : Int) := by omega
  have dd : ¬ (64 : Int) ≤ d := by omega
  have HSET : Hid (∀ (V : World) (j : Nat) (u : Value), V.cell? ⟨R, 2, none⟩ = some (.slice (some ⟨g, 0, none⟩) l1 cap) → (V.setCell ⟨g, j, none⟩ u).cell? ⟨R, 2, none⟩ = some (.slice (some ⟨g, 0, none⟩) l1 cap)) := fun V j u hV => by
    rw [World.cell?_setCell_other _ _ _ _ (by intro e; injection e with e; exact hRg e.symm)]; exact hV
  have HSD := Lib.hid h1.st.c2
  obtain ⟨h3, l3, p3⟩ := h1.set hm hp (p' := ({ Nd.nil with kind := kd }, .slice none 0 0)) 0 (by omega) (.int .i64 kd) rfl rfl rfl
  obtain ⟨h4, l4, p4⟩ := h3.set l3 p3 (p' := ({ Nd.nil with kind := kd, style := 7 }, .slice none 0 0)) 1 (by omega) (.int .i64 7) rfl rfl rfl
  simp only [List.set_set, Nat.add_zero, last_set hl] at h4
  have H4 := Lib.hid h4
  clear E C hsz hkl hl hl1 hp h h1 h3 h4 l3 l4 p3 p4 hm hRg
  unfold entV
  go_enter Tryz.func116, Tryz.ntmps116
  go_wp2_with fail
  go_region_held3 (fun V => V.cell? ⟨R, 2, none⟩ = some (.slice (some ⟨g, 0, none⟩) l1 cap))
    (first | exact HSD.out | exact HSET.out _ _ _ HSD.out | exact HSET.out _ _ _ (HSET.out _ _ _ HSD.out))
    (fail)
  have h4 : Rd w F R A n c ((W.setCell ⟨g, l * 10, none⟩ (.int .i64 kd)).setCell ⟨g, l * 10 + 1, none⟩ (.int .i64 7)).drew s (.slice (some ⟨g, 0, none⟩) l1 cap) (P0 ++ [({ Nd.nil with kind := kd, style := 7 }, .slice none 0 0)]) := H4.out
  generalize ((W.setCell ⟨g, l * 10, none⟩ (.int .i64 kd)).setCell ⟨g, l * 10 + 1, none⟩ (.int .i64 7)).drew = W4 at *
  have r1 := h4.st.c1
  have z1 := h4.st.z 1
  have h5 := h4.move (s + 1) (by omega)
  rw [show ((s + 1 : Nat) : Int) = (s : Int) + 1 by omega] at h5
  have H5 := Lib.hid h5
  clear h4 h5 H4 HSD HSET y0 y1 f0 f1 c2
  go_wp2_with fail
  obtain ⟨a, ha⟩ : ∃ a, inBlk b (s + 1) = a := ⟨_, rfl⟩
  have HAB := Lib.hid ha
  have hage := blk_ge b (s + 1)
  rw [ha] at hage
  clear ha
  refine (blanks_at HE.out H5.out a HAB.out).mono ?_
  rintro e w6 ⟨rfl, h6⟩
  have ha6 := h6.hs
  have H6 := Lib.hid h6
  clear h6 H5 r1 z1
  go_wp2_with fail
  obtain ⟨t, ht⟩ : ∃ t, (b.getD a 0 == x) = t := ⟨_, rfl⟩
  have HT := Lib.hid ht
  clear ht
  refine (skip_any HE.out H6.out x hx0 t HT.out).mono ?_
  rintro e w7 ⟨rfl, h7⟩
  have H7 := Lib.hid h7
  clear h7 H6
  cases t with
  | true =>
    have hr : inColl ent b x s l1 = .ok ([], [], a + 1) := by
      unfold inColl; rw [HAB.out, if_pos (beq_iff_eq.1 HT.out)]
    have HRR := Lib.hid hr
    clear hr
    go_wp2_with fail
    go_ret
    rw [HRR.out]
    exact ⟨rfl, _, _, [], H7.out, rfl⟩
  | false =>
    have hr : inColl ent b x s l1 = inLoop ent b x (b.length + 1) a l1 [] [] := by
      unfold inColl; rw [HAB.out, if_neg (beq_eq_false_iff_ne.1 HT.out)]
    obtain ⟨r, hres⟩ : ∃ r, inColl ent b x s l1 = r := ⟨_, rfl⟩
    have HRES := Lib.hid hres
    have HRR := Lib.hid (hres.symm.trans hr)
    clear hr hres
    go_wp2_with fail
    go_loopg [12, 13] (n - a) (fun G u12 u13 W8 => ∃ (sc Gf : Nat) (ks : List Nat) (v8 k8 : Value) (Q : List NK), sc + G = n ∧ Hid (r = inLoop ent b x (Gf + 1) sc (l1 + Q.length) ks (lst Q) ∧ n - sc ≤ Gf ∧ Rd w F R A n c W8 sc v8 (P0 ++ ({ Nd.nil with kind := kd, style := 7, kids := ks }, k8) :: Q) ∧ l1 + Q.length ≤ sc + 1 ∧ ks.length ≤ sc + 1))
    case atStart => exact ⟨a, b.length, [], _, _, [], by omega, HRR.out, by rw [HE.out.len]; omega, H7.out, by have := HL1.out; simp only [List.length_nil]; omega, Nat.zero_le _⟩
    case round =>
      obtain ⟨sc, Gf, ks, v8, k8, Q, hsc, HK⟩ := hrel
      obtain ⟨W8, hW8⟩ : ∃ x, x = wr := ⟨_, rfl⟩
      subst hW8
      clear HRR HT H7 HAB hage ha6
      have hcl := coll_lists (Q := Q) (Q2 := []) (y := ({ Nd.nil with kind := kd, style := 7, kids := ks }, k8)) (z := nilK) HL.out
      have hPl : (P0 ++ ({ Nd.nil with kind := kd, style := 7, kids := ks }, k8) :: Q).length = l1 + Q.length := by rw [List.length_append, List.length_cons, HL.out, ← HL1.out]; omega
      have hcall := HC.out W8 sc v8 _ l _ k8 HK.out.2.2.1 hcl.1 (by rw [hPl]; exact HK.out.2.2.2.1) HK.out.2.2.2.2
      rw [hPl] at hcall
      obtain ⟨r2, hr2⟩ : ∃ r2, ent sc (l1 + Q.length) = r2 := ⟨_, rfl⟩
      rw [hr2] at hcall
      have HCALL := Lib.hid hcall
      have HR2 := Lib.hid hr2
      have hrl := HK.out.1
      rw [loop_succ, hr2] at hrl
      have HRL := Lib.hid hrl
      clear hcall hr2 hrl hcl hPl
      go_wp2_with fail
      refine HCALL.out.mono ?_
      intro e w9 h9
      cases r2 with
      | error qe =>
        obtain ⟨rfl, hb9, hq0⟩ := h9
        have hne : (qe != 0) = true := bne_iff_ne.2 hq0
        have HB9 := Lib.hid hb9
        have HQ0 := Lib.hid hq0
        clear hb9 hq0 HCALL
        go_wp2_with fail
        go_ret
        rw [HRES.out, HRL.out]
        exact ⟨rfl, HB9.out, HQ0.out⟩
      | ok y =>
        obtain ⟨k2, nl, m⟩ := y
        obtain ⟨rfl, v9, k9, Q2, h9, hlq⟩ := h9
        rw [(coll_lists HL.out).2] at h9
        have hz := HZ.out sc (l1 + Q.length) k2 nl m (by rw [HE.out.len]; exact HK.out.2.2.1.hs) HR2.out
        rw [HE.out.len] at hz
        have H9 := Lib.hid h9
        have HLQ := Lib.hid hlq
        have HZ9 := Lib.hid hz
        clear h9 hlq hz HCALL
        go_wp2_with fail
        obtain ⟨a2, ha2⟩ : ∃ a2, inBlk b m = a2 := ⟨_, rfl⟩
        have HA2 := Lib.hid ha2
        have ha2ge := blk_ge b m
        rw [ha2] at ha2ge
        clear ha2
        refine (blanks_at HE.out H9.out a2 HA2.out).mono ?_
        rintro e w10 ⟨rfl, h10⟩
        have H10 := Lib.hid h10
        clear h10 H9
        go_wp2_with fail
        obtain ⟨t1, ht1⟩ : ∃ t, (b.getD a2 0 == x) = t := ⟨_, rfl⟩
        have HT1 := Lib.hid ht1
        clear ht1
        refine (skip_any HE.out H10.out x hx0 t1 HT1.out).mono ?_
        rintro e w11 ⟨rfl, h11⟩
        have H11 := Lib.hid h11
        clear h11 H10
        have hrl := HRL.out
        simp only [HA2.out] at hrl
        cases t1 with
        | true =>
          rw [if_pos (beq_iff_eq.1 HT1.out)] at hrl
          have HRF := Lib.hid hrl
          clear hrl
          go_wp2_with fail
          go_ret
          rw [HRES.out, HRF.out]
          exact ⟨rfl, _, k9, Q ++ Q2, H11.out, by rw [lst_app, HLQ.out]⟩
        | false =>
          rw [if_neg (beq_eq_false_iff_ne.1 HT1.out)] at hrl
          have HRF := Lib.hid hrl
          clear hrl
          go_wp2_with fail
          obtain ⟨t2, ht2⟩ : ∃ t, (b.getD a2 0 == 44) = t := ⟨_, rfl⟩
          have HT2 := Lib.hid ht2
          clear ht2
          refine (skip_any HE.out H11.out 44 (by decide) t2 HT2.out).mono ?_
          rintro e w12 ⟨rfl, h12⟩
          have H12 := Lib.hid h12
          clear h12 H11
          have hrl := HRF.out
          cases t2 with
          | false =>
            rw [if_neg (beq_eq_false_iff_ne.1 HT2.out)] at hrl
            have HRG := Lib.hid hrl
            clear hrl
            go_wp2_with fail
            go_ret
            rw [HRES.out, HRG.out]
            exact ⟨rfl, H12.out.bel, by decide⟩
          | true =>
            rw [if_pos (beq_iff_eq.1 HT2.out)] at hrl
            have HRG := Lib.hid hrl
            clear hrl
            go_wp2_with fail
            obtain ⟨a3, ha3⟩ : ∃ a3, inBlk b (a2 + 1) = a3 := ⟨_, rfl⟩
            have HA3 := Lib.hid ha3
            have ha3ge := blk_ge b (a2 + 1)
            rw [ha3] at ha3ge
            clear ha3
            refine (blanks_at HE.out H12.out a3 HA3.out).mono ?_
            rintro e w13 ⟨rfl, h13⟩
            have H13 := Lib.hid h13
            have h13s := h13.hs
            clear h13 H12
            go_wp2_with fail
            go_roundg (n - a3)
            case measure => have := HZ9.out.1; omega
            case rel =>
              obtain ⟨g1, g2, g3, g4, g5⟩ := HK.out
              have hz := HZ9.out
              have hq2 : Q2.length = nl.length := by rw [← HLQ.out, lst_len]
              obtain ⟨Gf, rfl⟩ : ∃ q, Gf = q + 1 := ⟨Gf - 1, by omega⟩
              refine ⟨a3, Gf, ks ++ k2, _, k9, Q ++ Q2, by omega, ?_, by omega, H13.out, ?_, ?_⟩
              · have e := HRG.out
                rw [HA3.out] at e
                rw [e, lst_app, HLQ.out, List.length_append, hq2, Nat.add_assoc]
              · rw [List.length_append, hq2]; omega
              · have hk2 := HKL.out sc (l1 + Q.length) k2 nl m (by rw [HE.out.len]; exact g3.hs) HR2.out
                rw [List.length_append]; omega
end Go.Proofs.YtclgahmgoiobaaaGreatDoor
/-! ### InCollP -/
namespace Go.Proofs.YtclgahmgoiobaaaGreatDoor
open Go.RowKit
set_option linter.unusedVariables false
set_option maxRecDepth 100000

set_option maxHeartbeats 4000000 in
theorem coll_pair {w : World} {F : Fr} {R : Nat} {A : Option Addr} {n c : Nat} {b : List Int} (E : Env w A n c b) (ent : Nat → Nat → InE) (hsz : SizeE b ent) (hkl : ∀ s base k l n, s ≤ b.length → ent s base = .ok (k, l, n) → k.length ≤ l.length) (d : Int) (hd0 : 0 ≤ d) (hd : d < 64) (C : EntC w F R A n c 118 ent (d + 1))
    {W : World} {s : Nat} {v : Value} {P0 : List NK} {l : Nat} (hl : P0.length = l) (h : Rd w F R A n c W s v (P0 ++ [nilK])) (hn : l ≤ s + 1) (kd x : Int) (hx0 : x ≠ 0) (hx44 : x ≠ 44) (hs : s < n) :
    Calls Tryz.prog 116 #[.pointer (some ⟨R, 0, none⟩), .int .i64 (l : Int), .int .i64 kd, .int .i64 d, .int .u8 x, entV R 118] W (CollP w F R A n c P0 kd (inColl ent b x s (l + 1))) := by
  have hsm := E.small
  have HE := Lib.hid E
  have HC := Lib.hid C
  have HZ := Lib.hid hsz
  have HKL := Lib.hid hkl
  have HL := Lib.hid hl
  have hp : (P0 ++ [nilK])[l]? = some nilK := last_at hl
  obtain ⟨g, cap, rfl, hg1, hg2, hg3, hg4⟩ := h.form (by simp)
  obtain ⟨l1, hl1⟩ : ∃ l1, l + 1 = l1 := ⟨_, rfl⟩
  have hm : (P0 ++ [nilK]).length = l1 := by simp [hl, hl1]
  rw [hm] at h hg1
  rw [hl1]
  have HL1 := Lib.hid hl1
  have hRg : R ≠ g := by
    have := h.st.offv
    intro e; exact this (by rw [e]; rfl)
  have h1 : Rd w F R A n c W.drew s (.slice (some ⟨g, 0, none⟩) l1 cap) (P0 ++ [nilK]) := h.below (Below.refl _ _).drew
  have y0 := h.cell hm hp 0 _ rfl
  have y1 := h.cell hm hp 1 _ rfl
  have f0 := h.frozen hm (l * 10)
  have f1 := h.frozen hm (l * 10 + 1)
  rw [Nat.add_zero] at y0
  have c2 := h.st.c2
  have dl : (l : Int) < (l1 : Int) := by omega
  have dd : ¬ (64 : Int) ≤ d := by omega
  have HSET : Hid (∀ (V : World) (j : Nat) (u : Value), V.cell? ⟨R, 2, none⟩ = some (.slice (some ⟨g, 0, none⟩) l1 cap) → (V.setCell ⟨g, j, none⟩ u).cell? ⟨R, 2, none⟩ = some (.slice (some ⟨g, 0, none⟩) l1 cap)) := fun V j u hV => by
    rw [World.cell?_setCell_other _ _ _ _ (by intro e; injection e with e; exact hRg e.symm)]; exact hV
  have HSD := Lib.hid h1.st.c2
  obtain ⟨h3, l3, p3⟩ := h1.set hm hp (p' := ({ Nd.nil with kind := kd }, .slice none 0 0)) 0 (by omega) (.int .i64 kd) rfl rfl rfl
  obtain ⟨h4, l4, p4⟩ := h3.set l3 p3 (p' := ({ Nd.nil with kind := kd, style := 7 }, .slice none 0 0)) 1 (by omega) (.int .i64 7) rfl rfl rfl
  simp only [List.set_set, Nat.add_zero, last_set hl] at h4
  have H4 := Lib.hid h4
  clear E C hsz hkl hl hl1 hp h h1 h3 h4 l3 l4 p3 p4 hm hRg
  unfold entV
  go_enter Tryz.func116, Tryz.ntmps116
  go_wp2_with fail
  go_region_held3 (fun V => V.cell? ⟨R, 2, none⟩ = some (.slice (some ⟨g, 0, none⟩) l1 cap))
    (first | exact HSD.out | exact HSET.out _ _ _ HSD.out | exact HSET.out _ _ _ (HSET.out _ _ _ HSD.out))
    (fail)
  have h4 : Rd w F R A n c ((W.setCell ⟨g, l * 10, none⟩ (.int .i64 kd)).setCell ⟨g, l * 10 + 1, none⟩ (.int .i64 7)).drew s (.slice (some ⟨g, 0, none⟩) l1 cap) (P0 ++ [({ Nd.nil with kind := kd, style := 7 }, .slice none 0 0)]) := H4.out
  generalize ((W.setCell ⟨g, l * 10, none⟩ (.int .i64 kd)).setCell ⟨g, l * 10 + 1, none⟩ (.int .i64 7)).drew = W4 at *
  have r1 := h4.st.c1
  have z1 := h4.st.z 1
  have h5 := h4.move (s + 1) (by omega)
  rw [show ((s + 1 : Nat) : Int) = (s : Int) + 1 by omega] at h5
  have H5 := Lib.hid h5
  clear h4 h5 H4 HSD HSET y0 y1 f0 f1 c2
  go_wp2_with fail
  obtain ⟨a, ha⟩ : ∃ a, inBlk b (s + 1) = a := ⟨_, rfl⟩
  have HAB := Lib.hid ha
  have hage := blk_ge b (s + 1)
  rw [ha] at hage
  clear ha
  refine (blanks_at HE.out H5.out a HAB.out).mono ?_
  rintro e w6 ⟨rfl, h6⟩
  have ha6 := h6.hs
  have H6 := Lib.hid h6
  clear h6 H5 r1 z1
  go_wp2_with fail
  obtain ⟨t, ht⟩ : ∃ t, (b.getD a 0 == x) = t := ⟨_, rfl⟩
  have HT := Lib.hid ht
  clear ht
  refine (skip_any HE.out H6.out x hx0 t HT.out).mono ?_
  rintro e w7 ⟨rfl, h7⟩
  have H7 := Lib.hid h7
  clear h7 H6
  cases t with
  | true =>
    have hr : inColl ent b x s l1 = .ok ([], [], a + 1) := by
      unfold inColl; rw [HAB.out, if_pos (beq_iff_eq.1 HT.out)]
    have HRR := Lib.hid hr
    clear hr
    go_wp2_with fail
    go_ret
    rw [HRR.out]
    exact ⟨rfl, _, _, [], H7.out, rfl⟩
  | false =>
    have hr : inColl ent b x s l1 = inLoop ent b x (b.length + 1) a l1 [] [] := by
      unfold inColl; rw [HAB.out, if_neg (beq_eq_false_iff_ne.1 HT.out)]
    obtain ⟨r, hres⟩ : ∃ r, inColl ent b x s l1 = r := ⟨_, rfl⟩
    have HRES := Lib.hid hres
    have HRR := Lib.hid (hres.symm.trans hr)
    clear hr hres
    go_wp2_with fail
    go_loopg [12, 13] (n - a) (fun G u12 u13 W8 => ∃ (sc Gf : Nat) (ks : List Nat) (v8 k8 : Value) (Q : List NK), sc + G = n ∧ Hid (r = inLoop ent b x (Gf + 1) sc (l1 + Q.length) ks (lst Q) ∧ n - sc ≤ Gf ∧ Rd w F R A n c W8 sc v8 (P0 ++ ({ Nd.nil with kind := kd, style := 7, kids := ks }, k8) :: Q) ∧ l1 + Q.length ≤ sc + 1 ∧ ks.length ≤ sc + 1))
    case atStart => exact ⟨a, b.length, [], _, _, [], by omega, HRR.out, by rw [HE.out.len]; omega, H7.out, by have := HL1.out; simp only [List.length_nil]; omega, Nat.zero_le _⟩
    case round =>
      obtain ⟨sc, Gf, ks, v8, k8, Q, hsc, HK⟩ := hrel
      obtain ⟨W8, hW8⟩ : ∃ x, x = wr := ⟨_, rfl⟩
      subst hW8
      clear HRR HT H7 HAB hage ha6
      have hcl := coll_lists (Q := Q) (Q2 := []) (y := ({ Nd.nil with kind := kd, style := 7, kids := ks }, k8)) (z := nilK) HL.out
      have hPl : (P0 ++ ({ Nd.nil with kind := kd, style := 7, kids := ks }, k8) :: Q).length = l1 + Q.length := by rw [List.length_append, List.length_cons, HL.out, ← HL1.out]; omega
      have hcall := HC.out W8 sc v8 _ l _ k8 HK.out.2.2.1 hcl.1 (by rw [hPl]; exact HK.out.2.2.2.1) HK.out.2.2.2.2
      rw [hPl] at hcall
      obtain ⟨r2, hr2⟩ : ∃ r2, ent sc (l1 + Q.length) = r2 := ⟨_, rfl⟩
      rw [hr2] at hcall
      have HCALL := Lib.hid hcall
      have HR2 := Lib.hid hr2
      have hrl := HK.out.1
      rw [loop_succ, hr2] at hrl
      have HRL := Lib.hid hrl
      clear hcall hr2 hrl hcl hPl
      go_wp2_with fail
      refine HCALL.out.mono ?_
      intro e w9 h9
      cases r2 with
      | error qe =>
        obtain ⟨rfl, hb9, hq0⟩ := h9
        have hne : (qe != 0) = true := bne_iff_ne.2 hq0
        have HB9 := Lib.hid hb9
        have HQ0 := Lib.hid hq0
        clear hb9 hq0 HCALL
        go_wp2_with fail
        go_ret
        rw [HRES.out, HRL.out]
        exact ⟨rfl, HB9.out, HQ0.out⟩
      | ok y =>
        obtain ⟨k2, nl, m⟩ := y
        obtain ⟨rfl, v9, k9, Q2, h9, hlq⟩ := h9
        rw [(coll_lists HL.out).2] at h9
        have hz := HZ.out sc (l1 + Q.length) k2 nl m (by rw [HE.out.len]; exact HK.out.2.2.1.hs) HR2.out
        rw [HE.out.len] at hz
        have H9 := Lib.hid h9
        have HLQ := Lib.hid hlq
        have HZ9 := Lib.hid hz
        clear h9 hlq hz HCALL
        go_wp2_with fail
        obtain ⟨a2, ha2⟩ : ∃ a2, inBlk b m = a2 := ⟨_, rfl⟩
        have HA2 := Lib.hid ha2
        have ha2ge := blk_ge b m
        rw [ha2] at ha2ge
        clear ha2
        refine (blanks_at HE.out H9.out a2 HA2.out).mono ?_
        rintro e w10 ⟨rfl, h10⟩
        have H10 := Lib.hid h10
        clear h10 H9
        go_wp2_with fail
        obtain ⟨t1, ht1⟩ : ∃ t, (b.getD a2 0 == x) = t := ⟨_, rfl⟩
        have HT1 := Lib.hid ht1
        clear ht1
        refine (skip_any HE.out H10.out x hx0 t1 HT1.out).mono ?_
        rintro e w11 ⟨rfl, h11⟩
        have H11 := Lib.hid h11
        clear h11 H10
        have hrl := HRL.out
        simp only [HA2.out] at hrl
        cases t1 with
        | true =>
          rw [if_pos (beq_iff_eq.1 HT1.out)] at hrl
          have HRF := Lib.hid hrl
          clear hrl
          go_wp2_with fail
          go_ret
          rw [HRES.out, HRF.out]
          exact ⟨rfl, _, k9, Q ++ Q2, H11.out, by rw [lst_app, HLQ.out]⟩
        | false =>
          rw [if_neg (beq_eq_false_iff_ne.1 HT1.out)] at hrl
          have HRF := Lib.hid hrl
          clear hrl
          go_wp2_with fail
          obtain ⟨t2, ht2⟩ : ∃ t, (b.getD a2 0 == 44) = t := ⟨_, rfl⟩
          have HT2 := Lib.hid ht2
          clear ht2
          refine (skip_any HE.out H11.out 44 (by decide) t2 HT2.out).mono ?_
          rintro e w12 ⟨rfl, h12⟩
          have H12 := Lib.hid h12
          clear h12 H11
          have hrl := HRF.out
          cases t2 with
          | false =>
            rw [if_neg (beq_eq_false_iff_ne.1 HT2.out)] at hrl
            have HRG := Lib.hid hrl
            clear hrl
            go_wp2_with fail
            go_ret
            rw [HRES.out, HRG.out]
            exact ⟨rfl, H12.out.bel, by decide⟩
          | true =>
            rw [if_pos (beq_iff_eq.1 HT2.out)] at hrl
            have HRG := Lib.hid hrl
            clear hrl
            go_wp2_with fail
            obtain ⟨a3, ha3⟩ : ∃ a3, inBlk b (a2 + 1) = a3 := ⟨_, rfl⟩
            have HA3 := Lib.hid ha3
            have ha3ge := blk_ge b (a2 + 1)
            rw [ha3] at ha3ge
            clear ha3
            refine (blanks_at HE.out H12.out a3 HA3.out).mono ?_
            rintro e w13 ⟨rfl, h13⟩
            have H13 := Lib.hid h13
            have h13s := h13.hs
            clear h13 H12
            go_wp2_with fail
            go_roundg (n - a3)
            case measure => have := HZ9.out.1; omega
            case rel =>
              obtain ⟨g1, g2, g3, g4, g5⟩ := HK.out
              have hz := HZ9.out
              have hq2 : Q2.length = nl.length := by rw [← HLQ.out, lst_len]
              obtain ⟨Gf, rfl⟩ : ∃ q, Gf = q + 1 := ⟨Gf - 1, by omega⟩
              refine ⟨a3, Gf, ks ++ k2, _, k9, Q ++ Q2, by omega, ?_, by omega, H13.out, ?_, ?_⟩
              · have e := HRG.out
                rw [HA3.out] at e
                rw [e, lst_app, HLQ.out, List.length_append, hq2, Nat.add_assoc]
              · rw [List.length_append, hq2]; omega
              · have hk2 := HKL.out sc (l1 + Q.length) k2 nl m (by rw [HE.out.len]; exact g3.hs) HR2.out
                rw [List.length_append]; omega
end Go.Proofs.YtclgahmgoiobaaaGreatDoor
/-! ### InCont -/
namespace Go.Proofs.YtclgahmgoiobaaaGreatDoor
open Go.RowKit
set_option linter.unusedVariables false
set_option maxRecDepth 100000

/-- What content leaves, in place of the last node of P0 ++ [nilK]. -/
def ContP (w : World) (F : Fr) (R : Nat) (A : Option Addr) (n c : Nat) (P0 : List NK) (r : Except Int (Nd × List Nd × Nat)) (e : Ending) (W' : World) : Prop :=
  match r with
  | .error k => e = .returned (.int .i64 k) ∧ Below w.heap.size w W' ∧ k ≠ 0
  | .ok (x, l, m) => e = .returned (.int .i64 0) ∧ ∃ v' k' Q, Rd w F R A n c W' m v' (P0 ++ (x, k') :: Q) ∧ lst Q = l
def inChild (f : Nat) (b : List Int) : Nat → Nat → InR := match f with
  | 0 => fun _ _ => .error 3
  | f + 1 => inNode f b true
theorem inNode_g (f : Nat) (b : List Int) (fl : Bool) (s base : Nat) : inNode f b fl s base = inNodeG (inChild f b) (f == 0) b fl s base := by cases f <;> rfl
theorem item_kl (child : Nat → Nat → InR) (b : List Int) (h : SizeC b child) : ∀ s base k l n, s ≤ b.length → inItem child s base = .ok (k, l, n) → k.length ≤ l.length := by
  intro s base k l n hs he
  unfold inItem at he
  cases hc : child s base with
  | error e => rw [hc] at he; cases he
  | ok x =>
    obtain ⟨l', n'⟩ := x
    rw [hc] at he
    simp only [] at he
    split at he
    · cases he
    · simp only [Except.ok.injEq, Prod.mk.injEq] at he
      obtain ⟨rfl, rfl, rfl⟩ := he
      exact (h s base l' n' hs hc).2.2.1
theorem pair_kl (child : Nat → Nat → InR) (b : List Int) (h : SizeC b child) : ∀ s base k l n, s ≤ b.length → inPair child b s base = .ok (k, l, n) → k.length ≤ l.length := by
  intro s base k l n hs he
  unfold inPair at he
  cases hk : inKey b s with
  | none => rw [hk] at he; cases he
  | some x =>
    obtain ⟨kx, n0⟩ := x
    rw [hk] at he
    simp only [] at he
    split at he
    · rename_i hcol
      have b2 := colon_lt hcol
      have b4 := blk_le (b := b) (s := inBlk b n0 + 1) (by omega)
      cases hc : child (inBlk b (inBlk b n0 + 1)) (base + 1) with
      | error e => rw [hc] at he; cases he
      | ok y =>
        obtain ⟨l', m⟩ := y
        rw [hc] at he
        simp only [Except.ok.injEq, Prod.mk.injEq] at he
        obtain ⟨rfl, rfl, rfl⟩ := he
        have := (h _ _ l' m b4 hc).2.2.1
        simp only [List.length_cons, List.length_nil, val_len]; omega
    · cases he
def begK (b : List Int) (s : Nat) : Nat := if b.getD s 0 = 42 then 0 else if b.getD s 0 = 91 then 1 else if b.getD s 0 = 123 then 2 else 3
set_option maxHeartbeats 4000000 in
theorem content_at {w : World} {F : Fr} {R : Nat} {A : Option Addr} {n c : Nat} {b : List Int} {f : Nat} (E : Env w A n c b) (IH : ∀ f', f = f' + 1 → NodeC w F R A n c b f') (d : Int) (hd0 : 0 ≤ d) (hd1 : d ≤ 1000000) (hf : (64 - d).toNat = f)
    {W : World} {s : Nat} {v : Value} {P0 : List NK} {l : Nat} (hl : P0.length = l) (h : Rd w F R A n c W s v (P0 ++ [nilK])) (hn : l ≤ s + 1) (fl : Bool) :
    Calls Tryz.prog 74 #[.pointer (some ⟨R, 0, none⟩), .int .i64 (l : Int), .bool fl, .int .i64 d] W (ContP w F R A n c P0 (inCont (inChild f b) (f == 0) b fl s (l + 1))) := by
  have HE := Lib.hid E
  have HL := Lib.hid hl
  have HH := Lib.hid h
  obtain ⟨r, hr⟩ : ∃ r, inCont (inChild f b) (f == 0) b fl s (l + 1) = r := ⟨_, rfl⟩
  rw [hr]
  unfold inCont at hr
  by_cases h42 : b.getD s 0 = 42
  · rw [if_pos h42] at hr
    have HR := Lib.hid hr
    have HB := Lib.hid h42
    clear E hl h IH hf hr h42
    go_enter Tryz.func74, Tryz.ntmps74
    go_wp2_with fail
    refine (begins_any HE.out HH.out 42 (by decide) true (beq_iff_eq.2 HB.out)).mono ?_
    rintro e w1 ⟨rfl, m1, rfl⟩
    have H1 := Lib.hid (HH.out.draws m1)
    generalize W.drewN m1 = W1 at *
    clear HH
    go_wp2_with fail
    refine (alias_at HE.out H1.out (last_at HL.out)).mono ?_
    intro e w2 h2
    by_cases ha : (Pr.aliasF (b.drop s)).2.2 = true
    · rw [if_pos ha] at h2
      obtain ⟨rfl, v2, h2⟩ := h2
      rw [last_set HL.out] at h2
      have H2 := Lib.hid h2
      have hrr : r = _ := HR.out.symm.trans (if_pos ha)
      have HRR := Lib.hid hrr
      clear h2 ha hrr
      go_wp2_with fail
      go_ret
      rw [HRR.out]
      exact ⟨rfl, v2, _, [], H2.out, rfl⟩
    · rw [if_neg ha] at h2
      obtain ⟨rfl, hb2⟩ := h2
      have H2 := Lib.hid hb2
      have hrr : r = _ := HR.out.symm.trans (if_neg ha)
      have HRR := Lib.hid hrr
      clear hb2 ha hrr
      go_wp2_with fail
      go_ret
      rw [HRR.out]
      exact ⟨rfl, H2.out, by decide⟩
  · rw [if_neg h42] at hr
    have HB42 := Lib.hid h42
    clear h42
    by_cases h91 : b.getD s 0 = 91
    · rw [if_pos h91] at hr
      have HB := Lib.hid h91
      have hsl := getD_lt (b := b) (k := s) (by rw [h91]; decide)
      rw [E.len] at hsl
      cases f with
      | zero =>
        rw [if_pos (show ((0 : Nat) == 0) = true from rfl)] at hr
        subst hr
        have hd64 : 64 ≤ d := by omega
        clear E hl h IH hf h91
        go_enter Tryz.func74, Tryz.ntmps74
        go_wp2_with fail
        refine (begins_any HE.out HH.out 42 (by decide) false (beq_eq_false_iff_ne.2 HB42.out)).mono ?_
        rintro e w1 ⟨rfl, m1, rfl⟩
        have H1 := Lib.hid (HH.out.draws m1)
        generalize W.drewN m1 = W1 at *
        clear HH
        go_wp2_with fail
        refine (begins_any HE.out H1.out 91 (by decide) true (beq_iff_eq.2 HB.out)).mono ?_
        rintro e w1 ⟨rfl, m2, rfl⟩
        have H2 := Lib.hid (H1.out.draws m2)
        generalize W1.drewN m2 = W2 at *
        clear H1
        go_wp2_with fail
        refine (coll_deep H2.out l 2 d 93 hd64 _).mono ?_
        rintro e w3 ⟨rfl, hb3⟩
        have H3 := Lib.hid hb3
        clear hb3
        go_wp2_with fail
        go_ret
        exact ⟨rfl, H3.out, by decide⟩
      | succ f =>
        rw [if_neg (by simp)] at hr
        have HR := Lib.hid hr
        have hd64 : d < 64 := by omega
        have hC := item_at E (IH f rfl) (d + 1) (by omega) (by omega) (by omega)
        have HC := Lib.hid hC
        clear E hl h IH hf h91 hr hC
        go_enter Tryz.func74, Tryz.ntmps74
        go_wp2_with fail
        refine (begins_any HE.out HH.out 42 (by decide) false (beq_eq_false_iff_ne.2 HB42.out)).mono ?_
        rintro e w1 ⟨rfl, m1, rfl⟩
        have H1 := Lib.hid (HH.out.draws m1)
        generalize W.drewN m1 = W1 at *
        clear HH
        go_wp2_with fail
        refine (begins_any HE.out H1.out 91 (by decide) true (beq_iff_eq.2 HB.out)).mono ?_
        rintro e w1 ⟨rfl, m2, rfl⟩
        have H2 := Lib.hid (H1.out.draws m2)
        generalize W1.drewN m2 = W2 at *
        clear H1
        go_wp2_with fail
        refine (coll_item HE.out (inItem (inNode f b true)) (item_size (node_size b f true)) (item_kl _ b (node_size b f true)) d hd0 hd64 HC.out HL.out H2.out hn 2 93 (by decide) (by decide) hsl).mono ?_
        intro e w3 h3
        obtain ⟨rc, hrc⟩ : ∃ rc, inColl (inItem (inNode f b true)) b 93 s (l + 1) = rc := ⟨_, rfl⟩
        have hr := HR.out
        simp only [inChild] at hr
        rw [hrc] at h3 hr
        clear hrc
        cases rc with
        | error q =>
          obtain ⟨rfl, hb3, hq0⟩ := h3
          have H3 := Lib.hid (And.intro hb3 hq0)
          have HRR := Lib.hid hr
          clear hb3 hq0 hr
          go_wp2_with fail
          go_ret
          rw [← HRR.out]
          exact ⟨rfl, H3.out.1, H3.out.2⟩
        | ok y =>
          obtain ⟨ks, nl, m⟩ := y
          obtain ⟨rfl, v3, k3, Q, h3, hq⟩ := h3
          have H3 := Lib.hid (And.intro h3 hq)
          have HRR := Lib.hid hr
          clear h3 hq hr
          go_wp2_with fail
          go_ret
          rw [← HRR.out]
          exact ⟨rfl, v3, k3, Q, H3.out.1, H3.out.2⟩
    · rw [if_neg h91] at hr
      have HB91 := Lib.hid h91
      clear h91
      by_cases h123 : b.getD s 0 = 123
      · rw [if_pos h123] at hr
        have HB := Lib.hid h123
        have hsl := getD_lt (b := b) (k := s) (by rw [h123]; decide)
        rw [E.len] at hsl
        cases f with
        | zero =>
          rw [if_pos (show ((0 : Nat) == 0) = true from rfl)] at hr
          subst hr
          have hd64 : 64 ≤ d := by omega
          clear E hl h IH hf h123
          go_enter Tryz.func74, Tryz.ntmps74
          go_wp2_with fail
          refine (begins_any HE.out HH.out 42 (by decide) false (beq_eq_false_iff_ne.2 HB42.out)).mono ?_
          rintro e w1 ⟨rfl, m1, rfl⟩
          have H1 := Lib.hid (HH.out.draws m1)
          generalize W.drewN m1 = W1 at *
          clear HH
          go_wp2_with fail
          refine (begins_any HE.out H1.out 91 (by decide) false (beq_eq_false_iff_ne.2 HB91.out)).mono ?_
          rintro e w1 ⟨rfl, m2, rfl⟩
          have H2 := Lib.hid (H1.out.draws m2)
          generalize W1.drewN m2 = W2 at *
          clear H1
          go_wp2_with fail
          refine (begins_any HE.out H2.out 123 (by decide) true (beq_iff_eq.2 HB.out)).mono ?_
          rintro e w1 ⟨rfl, m3, rfl⟩
          have H3 := Lib.hid (H2.out.draws m3)
          generalize W2.drewN m3 = W3 at *
          clear H2
          go_wp2_with fail
          refine (coll_deep H3.out l 3 d 125 hd64 _).mono ?_
          rintro e w3 ⟨rfl, hb3⟩
          have H4 := Lib.hid hb3
          clear hb3
          go_wp2_with fail
          go_ret
          exact ⟨rfl, H4.out, by decide⟩
        | succ f =>
          rw [if_neg (by simp)] at hr
          have HR := Lib.hid hr
          have hd64 : d < 64 := by omega
          have hC := pair_at E (IH f rfl) (d + 1) (by omega) (by omega) (by omega)
          have HC := Lib.hid hC
          clear E hl h IH hf h123 hr hC
          go_enter Tryz.func74, Tryz.ntmps74
          go_wp2_with fail
          refine (begins_any HE.out HH.out 42 (by decide) false (beq_eq_false_iff_ne.2 HB42.out)).mono ?_
          rintro e w1 ⟨rfl, m1, rfl⟩
          have H1 := Lib.hid (HH.out.draws m1)
          generalize W.drewN m1 = W1 at *
          clear HH
          go_wp2_with fail
          refine (begins_any HE.out H1.out 91 (by decide) false (beq_eq_false_iff_ne.2 HB91.out)).mono ?_
          rintro e w1 ⟨rfl, m2, rfl⟩
          have H2 := Lib.hid (H1.out.draws m2)
          generalize W1.drewN m2 = W2 at *
          clear H1
          go_wp2_with fail
          refine (begins_any HE.out H2.out 123 (by decide) true (beq_iff_eq.2 HB.out)).mono ?_
          rintro e w1 ⟨rfl, m3, rfl⟩
          have H3 := Lib.hid (H2.out.draws m3)
          generalize W2.drewN m3 = W3 at *
          clear H2
          go_wp2_with fail
          refine (coll_pair HE.out (inPair (inNode f b true) b) (pair_size (node_size b f true)) (pair_kl _ b (node_size b f true)) d hd0 hd64 HC.out HL.out H3.out hn 3 125 (by decide) (by decide) hsl).mono ?_
          intro e w3 h3
          obtain ⟨rc, hrc⟩ : ∃ rc, inColl (inPair (inNode f b true) b) b 125 s (l + 1) = rc := ⟨_, rfl⟩
          have hr := HR.out
          simp only [inChild] at hr
          rw [hrc] at h3 hr
          clear hrc
          cases rc with
          | error q =>
            obtain ⟨rfl, hb3, hq0⟩ := h3
            have H4 := Lib.hid (And.intro hb3 hq0)
            have HRR := Lib.hid hr
            clear hb3 hq0 hr
            go_wp2_with fail
            go_ret
            rw [← HRR.out]
            exact ⟨rfl, H4.out.1, H4.out.2⟩
          | ok y =>
            obtain ⟨ks, nl, m⟩ := y
            obtain ⟨rfl, v3, k3, Q, h3, hq⟩ := h3
            have H4 := Lib.hid (And.intro h3 hq)
            have HRR := Lib.hid hr
            clear h3 hq hr
            go_wp2_with fail
            go_ret
            rw [← HRR.out]
            exact ⟨rfl, v3, k3, Q, H4.out.1, H4.out.2⟩
      · rw [if_neg h123] at hr
        have HB123 := Lib.hid h123
        have HR := Lib.hid hr
        clear E hl h IH hf hr h123
        go_enter Tryz.func74, Tryz.ntmps74
        go_wp2_with fail
        refine (begins_any HE.out HH.out 42 (by decide) false (beq_eq_false_iff_ne.2 HB42.out)).mono ?_
        rintro e w1 ⟨rfl, m1, rfl⟩
        have H1 := Lib.hid (HH.out.draws m1)
        generalize W.drewN m1 = W1 at *
        clear HH
        go_wp2_with fail
        refine (begins_any HE.out H1.out 91 (by decide) false (beq_eq_false_iff_ne.2 HB91.out)).mono ?_
        rintro e w1 ⟨rfl, m2, rfl⟩
        have H2 := Lib.hid (H1.out.draws m2)
        generalize W1.drewN m2 = W2 at *
        clear H1
        go_wp2_with fail
        refine (begins_any HE.out H2.out 123 (by decide) false (beq_eq_false_iff_ne.2 HB123.out)).mono ?_
        rintro e w1 ⟨rfl, m3, rfl⟩
        have H3 := Lib.hid (H2.out.draws m3)
        generalize W2.drewN m3 = W3 at *
        clear H2
        go_wp2_with fail
        refine (scalar_at HE.out H3.out (last_at HL.out) fl).mono ?_
        intro e w4 h4
        obtain ⟨o, ho⟩ : ∃ o, inLeaf b fl s = o := ⟨_, rfl⟩
        have hr := HR.out
        rw [ho] at h4 hr
        clear ho
        cases o with
        | none =>
          obtain ⟨rfl, hb4⟩ := h4
          have H4 := Lib.hid hb4
          have HRR := Lib.hid hr
          clear hb4 hr
          go_wp2_with fail
          go_ret
          rw [← HRR.out]
          exact ⟨rfl, H4.out, by decide⟩
        | some y =>
          obtain ⟨kd, st, vl, m⟩ := y
          obtain ⟨rfl, v4, h4⟩ := h4
          rw [last_set HL.out] at h4
          have H4 := Lib.hid h4
          have HRR := Lib.hid hr
          clear h4 hr
          go_wp2_with fail
          go_ret
          rw [← HRR.out]
          exact ⟨rfl, v4, _, [], H4.out, rfl⟩
end Go.Proofs.YtclgahmgoiobaaaGreatDoor
/-! ### InNode -/
namespace Go.Proofs.YtclgahmgoiobaaaGreatDoor
open Go.RowKit
set_option linter.unusedVariables false
set_option maxRecDepth 100000

theorem cont_byte {b : List Int} (hb : Byte b) {child : Nat → Nat → InR} {deep fl : Bool} {s base : Nat} {x : Nd} {l : List Nd} {m : Nat} (h : inCont child deep b fl s base = .ok (x, l, m)) : Byte x.value ∧ x.value.length ≤ 4 * b.length := by
  unfold inCont at h
  split at h
  · split at h
    · simp only [Except.ok.injEq, Prod.mk.injEq] at h
      obtain ⟨rfl, _, _⟩ := h
      show Byte (Pr.aliasF (b.drop s)).1 ∧ (Pr.aliasF (b.drop s)).1.length ≤ 4 * b.length
      unfold Pr.aliasF
      split
      · rename_i hc
        simp only [Bool.and_eq_true] at hc
        rw [Pr.cut_drop _ _ hc.1]
        refine ⟨((hb.drop s).drop 1).take _, ?_⟩
        rw [List.length_take, List.length_drop, List.length_drop]; omega
      · exact ⟨fun z hz => (by cases hz), by simp⟩
    · cases h
  · have nilv : Byte ([] : List Int) ∧ ([] : List Int).length ≤ 4 * b.length := ⟨fun z hz => (by cases hz), by simp⟩
    split at h
    · split at h
      · cases h
      · cases hc : inColl (inItem child) b 93 s base with
        | error e => rw [hc] at h; cases h
        | ok y =>
          obtain ⟨ks, l', n'⟩ := y
          rw [hc] at h
          simp only [Except.ok.injEq, Prod.mk.injEq] at h
          obtain ⟨rfl, _, _⟩ := h
          exact nilv
    · split at h
      · split at h
        · cases h
        · cases hc : inColl (inPair child b) b 125 s base with
          | error e => rw [hc] at h; cases h
          | ok y =>
            obtain ⟨ks, l', n'⟩ := y
            rw [hc] at h
            simp only [Except.ok.injEq, Prod.mk.injEq] at h
            obtain ⟨rfl, _, _⟩ := h
            exact nilv
      · cases hl : inLeaf b fl s with
        | none => rw [hl] at h; cases h
        | some y =>
          obtain ⟨k, st, v, n⟩ := y
          rw [hl] at h
          simp only [Except.ok.injEq, Prod.mk.injEq] at h
          obtain ⟨rfl, _, _⟩ := h
          exact leaf_byte hb hl
theorem Rd.weak {w : World} {F : Fr} {R : Nat} {A : Option Addr} {n c : Nat} {W : World} {s : Nat} {v : Value} {P : List NK} {q : Nat × Obj} (h : Rd w (q :: F) R A n c W s v P) : Rd w F R A n c W s v P := ⟨h.st, h.bel, h.hs, fun x hx => h.fr x (List.mem_cons_of_mem _ hx)⟩
theorem set_mid {P0 Q : List NK} {y z : NK} {l : Nat} (hl : P0.length = l) : (P0 ++ y :: Q).set l z = P0 ++ z :: Q := by
  subst hl
  rw [List.set_append_right _ _ (Nat.le_refl _), Nat.sub_self]; rfl
/-- The box of a node's props. -/
def PropsIs (W : World) (bx : Nat) (t a : ByteArray) : Prop := W.heap[bx]? = some (.cells #[.string t, .string a] 91)
theorem PropsIs.below {W W' : World} {bx : Nat} {t a : ByteArray} (h : PropsIs W bx t a) (hb : Below W.heap.size W W') : PropsIs W' bx t a := (hb.block bx (Array.getElem?_eq_some_iff.1 h).1).trans h
theorem PropsIs.set {W : World} {bx : Nat} {t a t' a' : ByteArray} (h : PropsIs W bx t a) : PropsIs ((W.setCell ⟨bx, 0, none⟩ (.string t')).setCell ⟨bx, 1, none⟩ (.string a')) bx t' a' := by
  unfold PropsIs at h ⊢; simp [World.setCell, Array.getElem?_modify, h]
theorem PropsIs.c0 {W : World} {bx : Nat} {t a : ByteArray} (h : PropsIs W bx t a) : W.cell? ⟨bx, 0, none⟩ = some (.string t) := by unfold PropsIs at h; simp [World.cell?, h]
theorem PropsIs.c1 {W : World} {bx : Nat} {t a : ByteArray} (h : PropsIs W bx t a) : W.cell? ⟨bx, 1, none⟩ = some (.string a) := by unfold PropsIs at h; simp [World.cell?, h]
set_option maxHeartbeats 4000000 in
theorem node_of {w : World} {F : Fr} {R : Nat} {A : Option Addr} {n c : Nat} {b : List Int} {f : Nat} (E : Env w A n c b) (IH : ∀ f', f = f' + 1 → ∀ F, NodeC w F R A n c b f') : NodeC w F R A n c b f := by
  intro W s v P fl d h hn hd0 hd1 hf
  rw [inNode_g]
  obtain ⟨r, hr⟩ : ∃ r, inNodeG (inChild f b) (f == 0) b fl s P.length = r := ⟨_, rfl⟩
  rw [hr]
  obtain ⟨l, hl⟩ : ∃ l, P.length = l := ⟨_, rfl⟩
  rw [hl] at hn hr
  have hs := h.hs
  have hsm := E.small
  have hnc := E.le
  have hcm := E.cap
  obtain ⟨A', hsl, hA', hrd⟩ := slice_l A n c s b E.len hnc E.nil hs
  have HRD := Lib.hid hrd
  have HA' := Lib.hid hA'
  have hll : (b.drop s).length = n - s := by rw [List.length_drop, E.len]
  have HLL := Lib.hid hll
  have hpl := takeP_len (b.drop s)
  rw [hll] at hpl
  obtain ⟨tg, an, m, ok, hq⟩ : ∃ tg an m ok, Pr.takeP (b.drop s) = (tg, an, m, ok) := ⟨_, _, _, _, rfl⟩
  unfold inNodeG at hr
  rw [hq] at hpl hr
  simp only [] at hpl hr
  have HE := Lib.hid E
  have HL := Lib.hid hl
  have HH := Lib.hid h
  have HQ := Lib.hid hq
  have HR := Lib.hid hr
  have HC := Lib.hid (fun (G : Fr) (W : World) (s' : Nat) (v : Value) (hh : Rd w G R A n c W s' v (P ++ [nilK])) (hle : l ≤ s' + 1) => content_at E (fun f' hf' => IH f' hf' G) d hd0 hd1 hf hl hh hle fl)
  have c0 := h.st.c0
  have c1 := h.st.c1
  have hcall := fun V (hV : Below W.heap.size W V) => Pr.take_any A' (n - s) (c - s) (b.drop s) V hll (by omega) (by omega) hA' (E.byte.drop s) (hrd _ ((h.below hV).rdb E))
  have HCALL : Hid (∀ V, Below W.heap.size W V → Calls Tryz.prog 71 #[.slice A' (n - s) (c - s)] V fun e w' => ∃ t a : ByteArray, byt t = tg ∧ byt a = an ∧ e = .returned (.tuple #[.agg #[.string t, .string a], .int .i64 (m : Int), .bool ok]) ∧ Below V.heap.size V w') := fun V hV => by
    have := hcall V hV
    unfold Pr.TakeP at this
    rw [hq] at this
    exact this
  have KEEP : Hid (∀ V, Below W.heap.size W V → V.cell? ⟨R, 0, none⟩ = some (.slice A n c) ∧ V.cell? ⟨R, 1, none⟩ = some (.int .i64 (s : Int))) := fun V hV => ⟨(h.below hV).st.c0, (h.below hV).st.c1⟩
  clear E h IH hf hl hr hq hrd hA' hll hcall
  go_enter Tryz.func37, Tryz.ntmps37
  go_upto_region 1 with fail
  go_cut [7, 8, 9] (fun p q r W1 => ∃ (bx : Nat) (t a : ByteArray), p = .pointer (some ⟨bx, 0, none⟩) ∧ q = .int .i64 (m : Int) ∧ r = .bool ok ∧ Hid (Below W.heap.size W W1 ∧ W.heap.size ≤ bx ∧ PropsIs W1 bx t a ∧ byt t = tg ∧ byt a = an))
  case first =>
    go_region_held3 (fun V => V.cell? ⟨R, 0, none⟩ = some (.slice A n c) ∧ V.cell? ⟨R, 1, none⟩ = some (.int .i64 (s : Int)))
      (first
        | exact KEEP.out _ (Below.refl _ _)
        | exact KEEP.out _ (Below.refl _ _).drew
        | exact KEEP.out _ ((Below.refl _ _).drew.alloc (Nat.le_refl _) _)
        | exact KEEP.out _ (((Below.refl _ _).alloc (Nat.le_refl _) _).drew)
        | exact KEEP.out _ HQ1.out
        | exact KEEP.out _ (HQ1.out.alloc HQ1.out.size _)
        | exact KEEP.out _ ((HQ1.out.setCell (p := ⟨W.heap.size, 0, none⟩) (Nat.le_refl _) _).setCell (p := ⟨W.heap.size, 1, none⟩) (Nat.le_refl _) _))
      (first
        | (go_at_call 71; refine (HCALL.out W.drew (Below.refl _ _).drew).mono ?_; rintro e W1 ⟨t, a, ht, ha, rfl, hb⟩; have HQ1 := Lib.hid (below_step ((Below.refl _ _).drew) hb); have HTA := Lib.hid (And.intro ht ha); clear hb ht ha)
        | (go_at_call 71; refine (HCALL.out (W.alloc (.cells #[.string ⟨#[]⟩, .string ⟨#[]⟩] 91)).drew ((Below.refl _ _).alloc (Nat.le_refl _) _).drew).mono ?_; rintro e W1 ⟨t, a, ht, ha, rfl, hb⟩; have HQ1 := Lib.hid (below_step (((Below.refl _ _).alloc (Nat.le_refl _) _).drew) hb); have hnw : PropsIs W1 W.heap.size ⟨#[]⟩ ⟨#[]⟩ := (hb.block W.heap.size (by simp)).trans (heap_alloc_new W _); have q0 : W1.frozen? ⟨W.heap.size, 0, none⟩ = false := (by unfold PropsIs at hnw; simp [World.frozen?, hnw]); have q1 : W1.frozen? ⟨W.heap.size, 1, none⟩ = false := (by unfold PropsIs at hnw; simp [World.frozen?, hnw]); have r0 := hnw.c0; have r1 := hnw.c1; have HTA := Lib.hid (And.intro ht ha); have HN := Lib.hid hnw; clear hb ht ha hnw))
    all_goals
      go_wp2_with fail
      go_meet
      first
        | exact ⟨W1.heap.size, t, a, rfl, rfl, rfl, HQ1.out.alloc HQ1.out.size _, HQ1.out.size, heap_alloc_new _ _, HTA.out.1, HTA.out.2⟩
        | exact ⟨W.heap.size, t, a, rfl, rfl, rfl, (HQ1.out.setCell (p := ⟨W.heap.size, 0, none⟩) (Nat.le_refl _) _).setCell (p := ⟨W.heap.size, 1, none⟩) (Nat.le_refl _) _, Nat.le_refl _, HN.out.set, HTA.out.1, HTA.out.2⟩
  case rest =>
    obtain ⟨bx, t, a, rfl, rfl, rfl, HX⟩ := hcut
    obtain ⟨W1, hW1⟩ : ∃ x, x = wc := ⟨_, rfl⟩
    subst hW1
    have h1 := HH.out.below HX.out.1
    have hlt := HH.out.st.lt
    have hG : ∀ q ∈ ((bx, Obj.cells #[.string t, .string a] 91) :: F : Fr), W1.heap[q.1]? = some q.2 ∧ q.1 ≠ R ∧ v.ownBlock ≠ some q.1 ∧ ∀ (i : Nat) (p : NK), P[i]? = some p → p.2.ownBlock ≠ some q.1 := by
      intro q hq
      rcases List.mem_cons.1 hq with rfl | hq
      · refine ⟨HX.out.2.2.1, ?_, ?_, ?_⟩
        · have := HX.out.2.1; show bx ≠ R; omega
        · intro e; have := (HH.out.st.nds.blockB e).2; have := HX.out.2.1; simp only [] at *; omega
        · intro i p hp e; have := (HH.out.st.nds.kidB hp e).2; have := HX.out.2.1; simp only [] at *; omega
      · exact h1.fr q hq
    have HG : Hid (Rd w ((bx, Obj.cells #[.string t, .string a] 91) :: F) R A n c W1 s v P) := ⟨h1.st, h1.bel, h1.hs, hG⟩
    clear c0 c1 KEEP HCALL hsl h1 hG hlt
    cases ok with
    | false =>
      have hrr : r = .error 2 := HR.out.symm
      have HRR := Lib.hid hrr
      clear hrr
      go_wp2_with fail
      go_ret
      rw [HRR.out]
      exact ⟨rfl, HG.out.bel, by decide⟩
    | true =>
      obtain ⟨s2, hs2⟩ : ∃ s2, inBlk b (s + m) = s2 := ⟨_, rfl⟩
      have hrr := HR.out
      rw [if_pos rfl, hs2] at hrr
      have HS2 := Lib.hid hs2
      have HRR := Lib.hid hrr
      have hs2ge := blk_ge b (s + m)
      rw [hs2] at hs2ge
      have r1 := HG.out.st.c1
      clear hrr hs2 HR
      go_wp2_with fail
      go_quiet (fail)
      have h2 := HG.out.draws nq
      generalize W1.drewN nq = W2 at *
      have z1 := h2.st.z 1
      have k1 := h2.st.c1
      have h3 := h2.move (s + m) (by omega)
      rw [show ((s + m : Nat) : Int) = (s : Int) + (m : Int) by omega] at h3
      have H3 := Lib.hid h3
      clear h2 h3 HG r1
      go_wp2_with fail
      refine (blanks_at HE.out H3.out s2 HS2.out).mono ?_
      rintro e w4 ⟨rfl, h4⟩
      have q1 := h4.st.c1
      have hs2n := h4.hs
      have H4 := Lib.hid h4
      clear h4 H3 z1 k1
      go_upto_if 49 with fail
      go_cut [12] (fun p W5 => p = .int .i64 ((if m = 0 then s2 else s : Nat) : Int) ∧ W5 = w4)
      case first =>
        by_cases hm0 : m = 0
        · have e0 : ((m : Int) == 0) = true := beq_iff_eq.2 (by omega)
          have HM0 := Lib.hid hm0
          clear hm0
          go_wp2_with fail
          go_meet
          exact ⟨by rw [if_pos HM0.out], rfl⟩
        · have e0 : ((m : Int) == 0) = false := beq_eq_false_iff_ne.2 (by omega)
          have HM0 := Lib.hid hm0
          clear hm0
          go_wp2_with fail
          go_meet
          exact ⟨by rw [if_neg HM0.out], rfl⟩
      case rest =>
        obtain ⟨rfl, hw5⟩ := hcut
        obtain ⟨W5, hW5⟩ : ∃ x, x = wc := ⟨_, rfl⟩
        have h5 : Rd w ((bx, Obj.cells #[.string t, .string a] 91) :: F) R A n c W5 s2 v P := by rw [hW5, hw5]; exact H4.out
        subst hW5
        have H5 := Lib.hid h5
        obtain ⟨st, hst⟩ : ∃ st : Nat, (if m = 0 then s2 else s) = st := ⟨_, rfl⟩
        rw [hst]
        have HST := Lib.hid hst
        clear h5 hw5 H4 q1 hst
        go_wp2_with fail
        refine (add_at H5.out (by rw [HL.out]; omega)).mono ?_
        rintro e w6 ⟨rfl, v6, h6⟩
        rw [HL.out]
        have H6 := Lib.hid h6
        clear h6 H5
        go_wp2_with fail
        obtain ⟨rc, hrc⟩ : ∃ rc, inCont (inChild f b) (f == 0) b fl s2 (l + 1) = rc := ⟨_, rfl⟩
        have hcc := HC.out _ w6 s2 v6 H6.out (by omega)
        have hrr := HRR.out
        rw [hrc] at hcc hrr
        have HRC := Lib.hid hrc
        refine hcc.mono ?_
        clear hcc hrc
        intro e w7 h7
        cases rc with
        | error q =>
          obtain ⟨rfl, hb7, hq0⟩ := h7
          have hne : (q != 0) = true := bne_iff_ne.2 hq0
          have H7 := Lib.hid (And.intro hb7 hq0)
          have HRS : Hid (r = .error q) := hrr.symm
          clear hb7 hq0 hrr
          go_wp2_with fail
          go_ret
          rw [HRS.out]
          exact ⟨rfl, H7.out.1, H7.out.2⟩
        | ok y =>
          obtain ⟨x, nl, m2⟩ := y
          obtain ⟨rfl, v7, k7, Q, h7, hq7⟩ := h7
          have hbv := cont_byte HE.out.byte HRC.out
          rw [HE.out.len] at hbv
          have hbox : PropsIs w7 bx t a := (h7.fr (bx, _) (List.mem_cons_self ..)).1
          have b0 := hbox.c0
          have b1 := hbox.c1
          have hp7 : (P ++ (x, k7) :: Q)[l]? = some (x, k7) := (coll_lists (Q2 := []) (z := nilK) HL.out).1
          obtain ⟨g, cap, rfl, hg1, hg2, hg3, hg4⟩ := h7.form (by rw [List.length_append, List.length_cons]; omega)
          obtain ⟨l7, hl7⟩ : ∃ l7, (P ++ (x, k7) :: Q).length = l7 := ⟨_, rfl⟩
          have hll7 : (l : Int) < (l7 : Int) := by rw [← hl7, List.length_append, List.length_cons, HL.out]; omega
          rw [hl7] at h7 hg1
          have y0 := h7.cell hl7 hp7 0 _ rfl
          rw [Nat.add_zero] at y0
          have k1 := h7.st.c1
          have k2 := h7.st.c2
          have z1 := h7.st.z 1
          have hRb : R ≠ bx := fun e => (h7.fr (bx, _) (List.mem_cons_self ..)).2.1 e.symm
          have H7 := Lib.hid h7
          have HP7 := Lib.hid hp7
          have HQ7 := Lib.hid hq7
          have HBV := Lib.hid hbv
          have HRR2 := Lib.hid hrr
          obtain ⟨kd, hkd⟩ : ∃ kd, x.kind = kd := ⟨_, rfl⟩
          have HKD := Lib.hid hkd
          change w7.cell? ⟨g, l * 10, none⟩ = some (.int .i64 x.kind) at y0
          rw [hkd] at y0
          clear h7 hp7 hq7 hbv hrr hbox hl7 H6 hkd
          by_cases k4 : kd = 4
          · subst k4
            by_cases hm0 : 0 < m
            · have hmi : (0 : Int) < (m : Int) := by omega
              have HRS : Hid (r = .error 2) := by
                show r = _
                rw [← HRR2.out]; exact if_pos ⟨HKD.out, hm0⟩
              clear hm0
              go_wp2_with fail
              go_ret
              rw [HRS.out]
              exact ⟨rfl, H7.out.bel, by decide⟩
            · have hmi : ¬ (0 : Int) < (m : Int) := by omega
              have HRS : Hid (r = .ok (inFin x tg an st m2 :: nl, m2)) := by
                show r = _
                rw [← HRR2.out, ← HST.out]
                show (if _ then _ else _) = _
                rw [if_neg (by rintro ⟨_, h⟩; exact hm0 h), if_neg (by rw [HKD.out]; decide)]
              clear hm0
              go_wp2_with fail
              refine (finish_at H7.out HP7.out st t a HBV.out.1 (by have := HBV.out.2; omega)).mono ?_
              rintro e w8 ⟨rfl, v8, h8⟩
              have H8 := Lib.hid h8
              clear h8
              go_wp2_with fail
              go_ret
              rw [HRS.out]
              refine ⟨rfl, v8, (fin x t a st m2, k7) :: Q, ?_, ?_⟩
              · have := H8.out
                rw [set_mid HL.out] at this
                exact this.weak
              · show fin x t a st m2 :: lst Q = _
                rw [HQ7.out]; unfold fin; rw [HX.out.2.2.2.1, HX.out.2.2.2.2]
          · have k4' : (kd == 4) = false := beq_eq_false_iff_ne.2 k4
            by_cases k0 : kd = 0
            · subst k0
              have HRS : Hid (r = .ok (inFin x tg an s (s + m) :: nl, s + m)) := by
                show r = _
                rw [← HRR2.out]
                show (if _ then _ else _) = _
                rw [if_neg (by rintro ⟨h, _⟩; rw [HKD.out] at h; cases h), if_pos HKD.out]
              have h7m := H7.out.move (s + m) (by omega)
              rw [show ((s + m : Nat) : Int) = (s : Int) + (m : Int) by omega] at h7m
              have b0' : (w7.setCell ⟨R, 1, none⟩ (.int .i64 ((s : Int) + (m : Int)))).cell? ⟨bx, 0, none⟩ = some (.string t) := by
                rw [World.cell?_setCell_other _ _ _ _ (by intro e; injection e with e; exact hRb e)]; exact b0
              have b1' : (w7.setCell ⟨R, 1, none⟩ (.int .i64 ((s : Int) + (m : Int)))).cell? ⟨bx, 1, none⟩ = some (.string a) := by
                rw [World.cell?_setCell_other _ _ _ _ (by intro e; injection e with e; exact hRb e)]; exact b1
              have H7M := Lib.hid h7m
              clear k4 k4' h7m H7
              have H7 := H7M
              clear H7M
              go_wp2_with fail
              refine (finish_at H7.out HP7.out s t a HBV.out.1 (by have := HBV.out.2; omega)).mono ?_
              rintro e w8 ⟨rfl, v8, h8⟩
              have H8 := Lib.hid h8
              clear h8
              go_wp2_with fail
              go_ret
              rw [HRS.out]
              refine ⟨rfl, v8, (fin x t a s (s + m), k7) :: Q, ?_, ?_⟩
              · have := H8.out
                rw [set_mid HL.out] at this
                exact this.weak
              · show fin x t a s (s + m) :: lst Q = _
                rw [HQ7.out]; unfold fin; rw [HX.out.2.2.2.1, HX.out.2.2.2.2]
            · have k0' : (kd == 0) = false := beq_eq_false_iff_ne.2 k0
              have HRS : Hid (r = .ok (inFin x tg an st m2 :: nl, m2)) := by
                show r = _
                rw [← HRR2.out, ← HST.out]
                show (if _ then _ else _) = _
                rw [if_neg (by rintro ⟨h, _⟩; rw [HKD.out] at h; exact k4 h), if_neg (by rw [HKD.out]; exact k0)]
              clear k4 k0
              go_wp2_with fail
              refine (finish_at H7.out HP7.out st t a HBV.out.1 (by have := HBV.out.2; omega)).mono ?_
              rintro e w8 ⟨rfl, v8, h8⟩
              have H8 := Lib.hid h8
              clear h8
              go_wp2_with fail
              go_ret
              rw [HRS.out]
              refine ⟨rfl, v8, (fin x t a st m2, k7) :: Q, ?_, ?_⟩
              · have := H8.out
                rw [set_mid HL.out] at this
                exact this.weak
              · show fin x t a st m2 :: lst Q = _
                rw [HQ7.out]; unfold fin; rw [HX.out.2.2.2.1, HX.out.2.2.2.2]
theorem node_at {w : World} {R : Nat} {A : Option Addr} {n c : Nat} {b : List Int} (E : Env w A n c b) : ∀ (f : Nat) (F : Fr), NodeC w F R A n c b f := by
  intro f
  induction f with
  | zero => intro F; exact node_of E (fun f' h => by cases h)
  | succ f ih => intro F; exact node_of E (fun f' h => by injection h with h; subst h; exact ih)
end Go.Proofs.YtclgahmgoiobaaaGreatDoor
/-! ### InParse -/
namespace Go.Proofs.YtclgahmgoiobaaaGreatDoor
open Go.RowKit
set_option linter.unusedVariables false
set_option maxRecDepth 100000

/-- A list of nodes in memory of the call's own. -/
def ListP (W : World) (v : Value) (l : List Nd) : Prop := ∃ (B : Nat) (P : List NK), Nds B W v P ∧ lst P = l
theorem ListP.below {W W' : World} {v : Value} {l : List Nd} (h : ListP W v l) (hb : Below W.heap.size W W') : ListP W' v l := by
  obtain ⟨B, P, h1, h2⟩ := h
  exact ⟨B, P, h1.below hb, h2⟩
def TakP (w : World) (r : InR) (e : Ending) (W' : World) : Prop :=
  match r with
  | .error q => e = .returned (.tuple #[.slice none 0 0, .int .i64 0, .int .i64 q]) ∧ Below w.heap.size w W' ∧ q ≠ 0
  | .ok (l, m) => ∃ v, e = .returned (.tuple #[v, .int .i64 (m : Int), .int .i64 0]) ∧ ListP W' v l ∧ Below w.heap.size w W'
set_option maxHeartbeats 2000000 in
theorem takeN_at {W : World} {A : Option Addr} {n c : Nat} {b : List Int} (E : Env W A n c b) (fl : Bool) (d : Int) (hd0 : 0 ≤ d) (hd1 : d ≤ 1000000) :
    Calls Tryz.prog 25 #[.slice A n c, .bool fl, .int .i64 d] W (TakP W (inNode (64 - d).toNat b fl 0 0)) := by
  have HC : ∀ W1, W.alloc (.cells #[.slice A n c, .int .i64 0, .slice none 0 0] 67) = W1 →
      Hid (Calls Tryz.prog 37 #[.pointer (some ⟨W.heap.size, 0, none⟩), .bool fl, .int .i64 d] W1 (NodeP W [] W.heap.size A n c [] (inNode (64 - d).toNat b fl 0 0))) := by
    intro W1 hW1
    have hblk : W1.heap[W.heap.size]? = some (.cells #[.slice A n c, .int .i64 0, .slice none 0 0] 67) := by rw [← hW1]; exact heap_alloc_new _ _
    have hb1 : Below W.heap.size W W1 := by rw [← hW1]; exact (Below.refl _ _).alloc (Nat.le_refl _) _
    have h1 : Rd W [] W.heap.size A n c W1 0 (.slice none 0 0) [] :=
      ⟨⟨hblk, Nat.le_refl _, Nds.nil _ _, (fun e => by cases e), fun i p hp => by simp at hp⟩, hb1, Nat.zero_le _, fun q hq => by cases hq⟩
    exact Lib.hid (node_at E (64 - d).toNat [] W1 0 _ [] fl d h1 (Nat.zero_le _) hd0 hd1 rfl)
  replace HC := HC _ rfl
  obtain ⟨r, hr⟩ : ∃ r, inNode (64 - d).toNat b fl 0 0 = r := ⟨_, rfl⟩
  rw [hr] at HC ⊢
  clear E hr
  go_enter Tryz.func25, Tryz.ntmps25
  go_wp2_with fail
  refine HC.out.mono ?_
  intro e w2 h2
  cases r with
  | error q =>
    obtain ⟨rfl, hb2, hq0⟩ := h2
    have hne : (q != 0) = true := bne_iff_ne.2 hq0
    have H2 := Lib.hid (And.intro hb2 hq0)
    clear hb2 hq0 HC
    go_wp2_with fail
    go_ret3
    exact ⟨rfl, H2.out.1, H2.out.2⟩
  | ok y =>
    obtain ⟨l, m⟩ := y
    obtain ⟨rfl, v2, Q, h2, hq⟩ := h2
    have c1 := h2.st.c1
    have c2 := h2.st.c2
    have H2 := Lib.hid (And.intro h2 hq)
    clear h2 hq HC
    go_wp2_with fail
    go_quiet (fail)
    go_wp2_with fail
    go_ret3
    have h3 := H2.out.1.draws nq
    exact ⟨v2, rfl, ⟨_, Q, h3.st.nds, H2.out.2⟩, h3.bel⟩
theorem ix_has10 (zs : List Int) (x : Int) : (ixC x zs != -1) = zs.contains x := by
  unfold ixC
  by_cases h : zs.findIdx (· == x) < zs.length
  · rw [if_pos h]
    have h1 : zs.contains x = true := by
      rw [List.contains_iff_mem]
      have := List.findIdx_getElem (w := h)
      rw [beq_iff_eq] at this
      rw [← this]; exact List.getElem_mem h
    rw [h1, bne_iff_ne]; omega
  · rw [if_neg h]
    have h1 : zs.contains x = false := by
      cases hc : zs.contains x
      · rfl
      · rw [List.contains_iff_mem] at hc
        exact absurd (List.findIdx_lt_length_of_exists ⟨x, hc, by simp⟩) h
    rw [h1]; rfl
theorem take3_pre (zs : List Int) (n : Nat) (hl : zs.length = n) : (decide (3 ≤ n) && zs.take 3 == [239, 187, 191]) = (zs.take 3 == [239, 187, 191]) := by
  by_cases h : 3 ≤ n
  · rw [decide_eq_true h, Bool.true_and]
  · rw [decide_eq_false h, Bool.false_and]
    symm
    apply beq_eq_false_iff_ne.2
    intro e
    have := congrArg List.length e
    rw [List.length_take] at this; simp at this; omega
set_option maxHeartbeats 1000000 in
theorem contains_one (A : Option Addr) (b off : Nat) (n c d : Nat) (zs : List Int) (x : Int) (w : World) (hl : zs.length = n) (hr : RdB w A zs) (hx : w.cell? ⟨b, off, none⟩ = some (.int .u8 x)) (hd : 1 ≤ d) (hd' : d ≤ 9223372036854775807) (hbz : Byte zs) (hbx : 0 ≤ x ∧ x < 256) (t : Bool) (ht : zs.contains x = t) :
    Calls Tryz.prog 36 #[.slice A n c, .slice (some ⟨b, off, none⟩) 1 d] w fun e w' => e = .returned (.bool t) ∧ w = w' := by
  have HI := Lib.hid (Pr.index_one A b off n c d zs x w hl hr hx hd hd' hbz hbx)
  have hix := ix_has10 zs x
  rw [ht] at hix
  obtain ⟨q, hq⟩ : ∃ q, ixC x zs = q := ⟨_, rfl⟩
  rw [hq] at HI hix
  clear hl hr hx hbz ht hq
  go_enter Tryz.func36, Tryz.ntmps36
  go_wp2_with fail
  refine HI.out.mono ?_
  rintro e w1 ⟨rfl, rfl⟩
  go_wp2_with fail
  go_ret
  exact ⟨rfl, rfl⟩
set_option maxHeartbeats 4000000 in
theorem line_at (A : Option Addr) (n c : Nat) (zs : List Int) (W : World) (hl : zs.length = n) (hnc : n ≤ c) (hm : c ≤ 9223372036854775807) (hb : Byte zs) (hr : RdB W A zs) (t : Bool) (ht : inText zs = t) :
    Calls Tryz.prog 24 #[.slice A n c] W fun e W' => e = .returned (.bool t) ∧ Below W.heap.size W W' := by
  have kc := fun (w : World) (C : Array Value) (n c : Nat) => Lib.run_convert_bytes_const (P := Tryz.prog) w 50 5 C n c Tryz.underlying50 Tryz.underlying5
  unfold inText at ht
  rcases hck : checkF zs with ⟨x, y⟩
  rw [hck] at ht
  have HC := Lib.hid (check_at A n c zs W hl hnc hm hb hr x y hck)
  have HL := Lib.hid hl
  have HB := Lib.hid hb
  have HR := Lib.hid hr
  simp only [] at ht
  by_cases hy : y = 0
  · subst hy
    have hb1 : Below W.heap.size W (W.alloc (.cells #[.int .u8 239, .int .u8 187, .int .u8 191] 5 (3, 4))) := (Below.refl _ _).alloc (Nat.le_refl _) _
    obtain ⟨W1, hW1⟩ : ∃ W1, W.alloc (.cells #[.int .u8 239, .int .u8 187, .int .u8 191] 5 (3, 4)) = W1 := ⟨_, rfl⟩
    have hrd3 : RdB W1 (some ⟨W.heap.size, 0, none⟩) [239, 187, 191] := by rw [← hW1]; exact RdB.new rfl three_at
    rw [hW1] at hb1
    obtain ⟨p, hp⟩ : ∃ p, (zs.take 3 == [239, 187, 191]) = p := ⟨_, rfl⟩
    have HP := Lib.hid (hasPrefix_any A (some ⟨W.heap.size, 0, none⟩) n c 3 3 zs [239, 187, 191] W1 hl rfl (by omega) hnc hm (hr.below hb1) hrd3 hb (by intro z hz; simp at hz; omega) p (by rw [take3_pre zs n hl, hp]))
    rw [hp] at ht
    have HB1 := Lib.hid hb1
    clear hck hl hb hr hb1 hrd3 hp
    cases p with
    | true =>
      obtain rfl : t = false := by rw [← ht]; rfl
      clear ht
      go_enter Tryz.func24, Tryz.ntmps24
      go_wp2_with fail
      refine HC.out.mono ?_
      rintro e w1 ⟨rfl, rfl⟩
      go_wp2_with fail
      refine HP.out.mono ?_
      rintro e w1 ⟨rfl, rfl⟩
      go_wp2_with fail
      go_ret
      exact ⟨rfl, HB1.out⟩
    | false =>
      obtain ⟨cn, hcn⟩ : ∃ cn, zs.contains 10 = cn := ⟨_, rfl⟩
      obtain rfl : t = !cn := by rw [← ht, ← hcn]; rfl
      clear ht
      have hb2 : Below W.heap.size W (W1.alloc (.cells #[.int .u8 10] 5 (1, 2))) := HB1.out.alloc HB1.out.size _
      obtain ⟨W2, hW2⟩ : ∃ W2, W1.alloc (.cells #[.int .u8 10] 5 (1, 2)) = W2 := ⟨_, rfl⟩
      rw [hW2] at hb2
      have hc10 : W2.cell? ⟨W1.heap.size, 0, none⟩ = some (.int .u8 10) := by rw [← hW2, World.cell?_alloc_mark]; rfl
      have HI := Lib.hid (contains_one A W1.heap.size 0 n c 1 zs 10 W2 HL.out (HR.out.below hb2) hc10 (by omega) (by omega) HB.out (by omega) cn hcn)
      have HB2 := Lib.hid hb2
      clear hb2 hc10 hcn
      go_enter Tryz.func24, Tryz.ntmps24
      go_wp2_with fail
      refine HC.out.mono ?_
      rintro e w1 ⟨rfl, rfl⟩
      go_wp2_with fail
      refine HP.out.mono ?_
      rintro e w1 ⟨rfl, rfl⟩
      go_wp2_with fail
      refine HI.out.mono ?_
      rintro e w1 ⟨rfl, rfl⟩
      go_wp2_with fail
      go_ret
      exact ⟨rfl, HB2.out⟩
  · obtain rfl : t = false := by rw [← ht, beq_eq_false_iff_ne.2 hy]; rfl
    have hy' : (y == 0) = false := beq_eq_false_iff_ne.2 hy
    clear ht hy hck hl hb hr kc
    go_enter Tryz.func24, Tryz.ntmps24
    go_wp2_with fail
    refine HC.out.mono ?_
    rintro e w1 ⟨rfl, rfl⟩
    go_wp2_with fail
    go_ret
    exact ⟨rfl, Below.refl _ _⟩
def ParP (w : World) (r : Except Int (List Nd)) (e : Ending) (W' : World) : Prop :=
  match r with
  | .error q => e = .returned (.tuple #[.slice none 0 0, .int .i64 q]) ∧ Below w.heap.size w W' ∧ q ≠ 0
  | .ok l => ∃ v, e = .returned (.tuple #[v, .int .i64 0]) ∧ ListP W' v l ∧ Below w.heap.size w W'
theorem chk_y (b : List Int) : (checkF b).2 = 0 → b.length ≤ 65536 := by
  intro h
  unfold checkF at h
  split at h
  · cases h
  · omega
set_option maxHeartbeats 4000000 in
theorem parse_at {w W : World} (hb : Below w.heap.size w W) (hS : Shorts w) (hM : MaxL w) (u : ByteArray) (hu : u.size ≤ 1000000) (fl : Bool) (r : Except Int (List Nd)) (hr : inParse (byt u) fl = r) :
    Calls Tryz.prog 12 #[.string u, .bool fl] W (ParP w r) := by
  obtain ⟨cap, W1, B⟩ := bytes_of u (by omega) W
  have hrun := B.run
  have hb1 := below_step hb B.below
  unfold inParse at hr
  obtain ⟨t, ht⟩ : ∃ t, inText (byt u) = t := ⟨_, rfl⟩
  rw [ht] at hr
  have HT := Lib.hid (line_at _ u.size cap (byt u) W1 (byt_len u) B.le B.max (byt_byte u) B.rd t ht)
  have HB1 := Lib.hid hb1
  have HBB := Lib.hid B
  have hle := B.le
  have hmx := B.max
  cases t with
  | false =>
    obtain rfl : r = .error 1 := by rw [← hr]; rfl
    clear hb hS hM hr ht hb1 B
    go_enter Tryz.func12, Tryz.ntmps12
    go_wp2_with fail
    refine HT.out.mono ?_
    rintro e w2 ⟨rfl, hb2⟩
    have HB2 := Lib.hid (below_step HB1.out hb2)
    clear hb2
    go_wp2_with fail
    go_ret2
    exact ⟨rfl, HB2.out, by decide⟩
  | true =>
    have hlen : u.size ≤ 65536 := by
      unfold inText at ht
      simp only [Bool.and_eq_true, beq_iff_eq] at ht
      have := chk_y (byt u) ht.1
      rwa [byt_len] at this
    rw [if_pos rfl] at hr
    have hE : ∀ W2, Below W1.heap.size W1 W2 → Env W2 (some ⟨W.heap.size, 0, none⟩) u.size cap (byt u) := fun W2 h2 =>
      ⟨byt_len u, hle, hmx, (fun h => by cases h), byt_byte u, HBB.out.rd.below h2, by omega, (hS.below hb1).below h2, (hM.below hb1).below h2⟩
    have HE := Lib.hid hE
    obtain ⟨rn, hrn⟩ : ∃ rn, inNode 64 (byt u) fl 0 0 = rn := ⟨_, rfl⟩
    rw [hrn] at hr
    have HRN := Lib.hid hrn
    have HR := Lib.hid hr
    clear hb hS hM hr ht hb1 B hE hrn
    go_enter Tryz.func12, Tryz.ntmps12
    go_wp2_with fail
    refine HT.out.mono ?_
    rintro e w2 ⟨rfl, hb2⟩
    have HB2 := Lib.hid hb2
    clear hb2
    go_wp2_with fail
    have hc := takeN_at (HE.out w2 HB2.out) fl 0 (by omega) (by omega)
    change Calls _ _ _ _ (TakP w2 (inNode 64 (byt u) fl 0 0)) at hc
    rw [HRN.out] at hc
    have HB02 := Lib.hid (below_step HB1.out HB2.out)
    refine hc.mono ?_
    clear hc
    intro e w3 h3
    cases rn with
    | error q =>
      obtain ⟨rfl, hb3, hq0⟩ := h3
      have hne : (q != 0) = true := bne_iff_ne.2 hq0
      have H3 := Lib.hid (And.intro (below_step HB02.out hb3) hq0)
      have HRR : Hid (r = .error q) := HR.out.symm
      clear hb3 hq0
      go_wp2_with fail
      go_ret2
      rw [HRR.out]
      exact ⟨rfl, H3.out.1, H3.out.2⟩
    | ok y =>
      obtain ⟨l, m⟩ := y
      obtain ⟨v, rfl, hl3, hb3⟩ := h3
      have H3 := Lib.hid (And.intro (below_step HB02.out hb3) hl3)
      have hrr := HR.out
      clear hb3 hl3
      by_cases hm0 : m = 0
      · have HRR : Hid (r = .error 2) := by show r = _; rw [← hrr]; exact if_pos (.inl hm0)
        have e0 : ((m : Int) == 0) = true := beq_iff_eq.2 (by omega)
        clear hm0 hrr
        go_wp2_with fail
        go_ret2
        rw [HRR.out]
        exact ⟨rfl, H3.out.1, by decide⟩
      · have e0 : ((m : Int) == 0) = false := beq_eq_false_iff_ne.2 (by omega)
        by_cases hmn : m < u.size
        · have HRR : Hid (r = .error 2) := by show r = _; rw [← hrr]; exact if_pos (.inr (by rw [byt_len]; exact hmn))
          have e1 : (m : Int) < (u.size : Int) := by omega
          clear hm0 hrr
          go_wp2_with fail
          go_ret2
          rw [HRR.out]
          exact ⟨rfl, H3.out.1, by decide⟩
        · have HRR : Hid (r = .ok l) := by show r = _; rw [← hrr]; exact if_neg (by rw [byt_len]; rintro (h | h); exact hm0 h; exact hmn h)
          have e1 : ¬ (m : Int) < (u.size : Int) := by omega
          clear hm0 hrr
          go_wp2_with fail
          go_ret2
          rw [HRR.out]
          exact ⟨v, rfl, H3.out.2, H3.out.1⟩
end Go.Proofs.YtclgahmgoiobaaaGreatDoor
/-! ### InLaw -/
namespace Go.Proofs.YtclgahmgoiobaaaGreatDoor
open Go.RowKit
set_option linter.unusedVariables false
set_option maxRecDepth 100000

theorem ListP.look {W : World} {v : Value} {l : List Nd} (h : ListP W v l) (h0 : 0 < l.length) : ∃ g cap, v = .slice (some ⟨g, 0, none⟩) l.length cap ∧ l.length ≤ cap ∧ cap ≤ 9223372036854775807 ∧
    ∀ (i : Nat) (x : Nd) (j : Nat) (u : Value), l[i]? = some x → j < 9 → (ndC (x, .slice none 0 0))[j]? = some u → W.cell? ⟨g, i * 10 + j, none⟩ = some u := by
  obtain ⟨B, P, hn, rfl⟩ := h
  have hl : (lst P).length = P.length := by simp [lst]
  rw [hl] at h0 ⊢
  obtain ⟨g, cap, rfl, h1, h2, h3, h4⟩ := hn.form h0
  refine ⟨g, cap, rfl, h1, h2, ?_⟩
  intro i x j u hi hj hu
  have : ∃ p, P[i]? = some p ∧ p.1 = x := by
    simp only [lst, List.getElem?_map, Option.map_eq_some_iff] at hi
    exact hi
  obtain ⟨p, hp, rfl⟩ := this
  refine hn.cell hp j u ?_
  rw [← hu]
  match j, hj with
  | 0, _ => rfl
  | 1, _ => rfl
  | 2, _ => rfl
  | 3, _ => rfl
  | 4, _ => rfl
  | 5, _ => rfl
  | 6, _ => rfl
  | 7, _ => rfl
  | 8, _ => rfl
def wkB : Bool := match inParse [91, 97, 44, 32, 123, 98, 58, 32, 49, 125, 93] false with
  | .ok l => l.length == 5 && (l[0]?.map (·.kind) == some 2 && l[4]?.map (·.value) == some [49])
  | .error _ => false
theorem wk_true : wkB = true := by decide +kernel
theorem wk_in : ∃ l, inParse (byt ⟨#[91, 97, 44, 32, 123, 98, 58, 32, 49, 125, 93]⟩) false = .ok l ∧ l.length = 5 ∧ (∃ x, l[0]? = some x ∧ x.kind = 2) ∧ (∃ x, l[4]? = some x ∧ x.value = [49]) := by
  have h := wk_true
  unfold wkB at h
  change (match inParse (byt ⟨#[91, 97, 44, 32, 123, 98, 58, 32, 49, 125, 93]⟩) false with
  | .ok l => l.length == 5 && (l[0]?.map (·.kind) == some 2 && l[4]?.map (·.value) == some [49])
  | .error _ => false) = true at h
  generalize inParse (byt ⟨#[91, 97, 44, 32, 123, 98, 58, 32, 49, 125, 93]⟩) false = r at h ⊢
  cases r with
  | error q => cases h
  | ok l =>
    simp only [Bool.and_eq_true, beq_iff_eq, Option.map_eq_some_iff] at h
    obtain ⟨h1, h2, h3⟩ := h
    exact ⟨l, rfl, h1, h2, h3⟩
theorem one_str : strOfNums [49] = ⟨#[49]⟩ := rfl
set_option maxHeartbeats 2000000 in
theorem wakes_at {w W : World} (hb : Below w.heap.size w W) (hS : Shorts w) (hM : MaxL w) : Calls Tryz.prog 13 #[] W fun e w' => e = .returned (.bool true) ∧ Below w.heap.size w w' := by
  obtain ⟨l, hl, h5, ⟨x, hx, hk⟩, ⟨y, hy, hv⟩⟩ := wk_in
  have C := Lib.hid (parse_at hb hS hM ⟨#[91, 97, 44, 32, 123, 98, 58, 32, 49, 125, 93]⟩ (by decide) false _ hl)
  clear hS hM hb hl
  go_enter Tryz.func13, Tryz.ntmps13
  go_wp2_with fail
  refine C.out.mono ?_
  clear C
  rintro e w1 ⟨v, rfl, hL, hb1⟩
  obtain ⟨g, cap, rfl, h1, h2, hc⟩ := hL.look (by omega)
  have c0 := hc 0 x 0 _ hx (by omega) rfl
  have c4 := hc 4 y 4 _ hy (by omega) rfl
  rw [hk] at c0
  rw [hv, one_str] at c4
  rw [h5] at h1 ⊢
  have HB := Lib.hid hb1
  clear hb1 hL hc hx hy hk hv h5
  have h1' : (0 : Int) < 5 := by omega
  go_wp2_with fail
  go_ret
  exact ⟨rfl, HB.out⟩
end Go.Proofs.YtclgahmgoiobaaaGreatDoor
