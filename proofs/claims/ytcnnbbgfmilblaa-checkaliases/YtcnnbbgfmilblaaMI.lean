/- Chapter 12: a node's places lie in its parent's, one behind the other. No program. -/
import Derived.Test.YtcnnbbgfmilblaaMG
set_option linter.unusedSimpArgs false
set_option linter.unusedVariables false
/-! ### InSpan -/
namespace Go.Proofs.Ytcnnbbgfmilblaa
open Go.RowKit
set_option linter.unusedVariables false
set_option maxRecDepth 100000

/-- Kids behind the node i, whose places lie one behind the other from last on, up to top. -/
def Chn (at_ : Nat → Option Nd) (i top : Nat) : Nat → List Nat → Prop
  | _, [] => True
  | last, k :: ks => ∃ y, i < k ∧ at_ k = some y ∧ last ≤ y.st ∧ y.en ≤ top ∧ Chn at_ i top y.en ks
theorem Chn.nil {f : Nat → Option Nd} {i top last : Nat} : Chn f i top last [] := trivial
theorem Chn.weak {f g : Nat → Option Nd} (hfg : ∀ k y, f k = some y → g k = some y) {i top top' : Nat} (ht : top ≤ top') : ∀ {ks : List Nat} {last last' : Nat}, last' ≤ last → Chn f i top last ks → Chn g i top' last' ks
  | [], _, _, _, _ => trivial
  | k :: ks, last, last', hl, h => by
    obtain ⟨y, h1, h2, h3, h4, h5⟩ := h
    exact ⟨y, h1, hfg _ _ h2, by omega, by omega, h5.weak hfg ht (Nat.le_refl _)⟩
theorem Chn.app {f : Nat → Option Nd} {i n s2 n2 : Nat} (hn : n ≤ s2) (hn2 : n ≤ n2) {k2 : List Nat} (h2 : Chn f i n2 s2 k2) : ∀ {ks : List Nat} {s : Nat}, s ≤ n → Chn f i n s ks → Chn f i n2 s (ks ++ k2)
  | [], s, hs, _ => h2.weak (fun _ _ h => h) (Nat.le_refl _) (by omega)
  | k :: ks, s, hs, h => by
    obtain ⟨y, h1, h2', h3, h4, h5⟩ := h
    exact ⟨y, h1, h2', h3, by omega, Chn.app hn hn2 h2 h4 h5⟩
def lkp (base : Nat) (l : List Nd) (k : Nat) : Option Nd := if base ≤ k then l[k - base]? else none
theorem lkp_cons {base : Nat} {l : List Nd} (z : Nd) {k : Nat} {y : Nd} (h : lkp (base + 1) l k = some y) : lkp base (z :: l) k = some y := by
  unfold lkp at h ⊢
  split at h
  · rw [if_pos (by omega), show k - base = (k - (base + 1)) + 1 by omega, List.getElem?_cons_succ]; exact h
  · cases h
theorem lkp_left {base : Nat} {l : List Nd} (m : List Nd) {k : Nat} {y : Nd} (h : lkp base l k = some y) : lkp base (l ++ m) k = some y := by
  unfold lkp at h ⊢
  split at h
  · rename_i hk
    rw [if_pos hk, List.getElem?_append_left (List.getElem?_eq_some_iff.1 h).1]; exact h
  · cases h
theorem lkp_right {base : Nat} {l : List Nd} (m : List Nd) {k : Nat} {y : Nd} (h : lkp (base + m.length) l k = some y) : lkp base (m ++ l) k = some y := by
  unfold lkp at h ⊢
  split at h
  · rw [if_pos (by omega), List.getElem?_append_right (by omega), show k - base - m.length = k - (base + m.length) by omega]; exact h
  · cases h
/-- Each node's Kids. -/
def Sps (base : Nat) (l : List Nd) (f : Nat → Option Nd) : Prop := ∀ (i : Nat) (x : Nd), l[i]? = some x → x.st ≤ x.en ∧ Chn f (base + i) x.en x.st x.kids
theorem Sps.weak {base : Nat} {l : List Nd} {f g : Nat → Option Nd} (hfg : ∀ k y, f k = some y → g k = some y) (h : Sps base l f) : Sps base l g := fun i x hi => ⟨(h i x hi).1, (h i x hi).2.weak hfg (Nat.le_refl _) (Nat.le_refl _)⟩
theorem Sps.nil (base : Nat) (f : Nat → Option Nd) : Sps base [] f := fun i x h => by simp at h
theorem Sps.cons {base : Nat} {l : List Nd} {f : Nat → Option Nd} {z : Nd} (h : Sps (base + 1) l f) (h1 : z.st ≤ z.en) (h2 : Chn f base z.en z.st z.kids) : Sps base (z :: l) f := by
  intro i x hi
  cases i with
  | zero => simp at hi; subst hi; exact ⟨h1, h2⟩
  | succ i =>
    rw [List.getElem?_cons_succ] at hi
    have := h i x hi
    rw [show base + 1 + i = base + (i + 1) by omega] at this
    exact this
theorem Sps.app {base : Nat} {l m : List Nd} {f : Nat → Option Nd} (h : Sps base l f) (h2 : Sps (base + l.length) m f) : Sps base (l ++ m) f := by
  intro i x hi
  rcases Nat.lt_or_ge i l.length with hl | hl
  · rw [List.getElem?_append_left hl] at hi; exact h i x hi
  · rw [List.getElem?_append_right hl] at hi
    have := h2 _ x hi
    rw [show base + l.length + (i - l.length) = base + i by omega] at this
    exact this
def SpC (child : Nat → Nat → InR) : Prop := ∀ s base l n, child s base = .ok (l, n) → s ≤ n ∧ (∀ y ∈ l, y.en ≤ n) ∧ Sps base l (lkp base l) ∧ ∃ x t, l = x :: t ∧ s ≤ x.st ∧ x.st ≤ x.en ∧ (n = s → x.kids = [])
def SpE (ent : Nat → Nat → InE) : Prop := ∀ s base ks l n, ent s base = .ok (ks, l, n) → s ≤ n ∧ (∀ y ∈ l, y.en ≤ n) ∧ Sps base l (lkp base l) ∧ ∀ i, i < base → Chn (lkp base l) i n s ks
theorem lkp_at {base : Nat} {l : List Nd} (j : Nat) {y : Nd} (h : l[j]? = some y) : lkp base l (base + j) = some y := by
  unfold lkp; rw [if_pos (by omega), show base + j - base = j by omega]; exact h
theorem item_sp {child : Nat → Nat → InR} (h : SpC child) : SpE (inItem child) := by
  intro s base ks l n he
  unfold inItem at he
  cases hc : child s base with
  | error e => rw [hc] at he; cases he
  | ok y =>
    obtain ⟨l', n'⟩ := y
    rw [hc] at he
    dsimp only at he
    split at he
    · cases he
    · simp only [Except.ok.injEq, Prod.mk.injEq] at he
      obtain ⟨rfl, rfl, rfl⟩ := he
      obtain ⟨h1, h2, h3, x, t, rfl, h4, h5, h6⟩ := h s base l' n' hc
      exact ⟨h1, h2, h3, fun i hi => ⟨x, hi, lkp_at (base := base) 0 rfl, h4, h2 x (by simp), trivial⟩⟩
theorem key_sp {b : List Int} {s : Nat} {k : Nd} {n : Nat} (h : inKey b s = some (k, n)) : k.st = s ∧ k.en = n ∧ s ≤ n ∧ k.kids = [] := by
  unfold inKey at h
  split at h
  · cases h
  · split at h
    · injection h with h; injection h with h1 h2; rw [← h1, ← h2]; exact ⟨rfl, rfl, by omega, rfl⟩
    · cases h
theorem pair_sp {child : Nat → Nat → InR} (h : SpC child) (b : List Int) : SpE (inPair child b) := by
  intro s base ks l n he
  unfold inPair at he
  cases hk : inKey b s with
  | none => rw [hk] at he; cases he
  | some kn =>
    obtain ⟨k, n1⟩ := kn
    rw [hk] at he
    dsimp only at he
    split at he
    · cases hc : child (inBlk b (inBlk b n1 + 1)) (base + 1) with
      | error e => rw [hc] at he; cases he
      | ok y =>
        obtain ⟨l', m⟩ := y
        rw [hc] at he
        simp only [Except.ok.injEq, Prod.mk.injEq] at he
        obtain ⟨rfl, rfl, rfl⟩ := he
        obtain ⟨k1, k2, k3, k4⟩ := key_sp hk
        obtain ⟨h1, h2, h3, x, t, rfl, h4, h5, h6⟩ := h _ _ l' m hc
        have g1 := blk_ge b n1
        have g2 := blk_ge b (inBlk b n1 + 1)
        obtain ⟨q, hq⟩ : ∃ q, inBlk b (inBlk b n1 + 1) = q := ⟨_, rfl⟩
        rw [hq] at h1 h4 h6 hc g2
        rw [hq]
        have hx2 := h2 x (by simp)
        obtain ⟨z, hz⟩ : ∃ z, ({ x with hd := s, mr := inBlk b n1 + 1, st := if (m == q) = true then inBlk b n1 + 1 else x.st, en := if (m == q) = true then inBlk b n1 + 1 else x.en } : Nd) = z := ⟨_, rfl⟩
        have hzk : z.kids = x.kids := by rw [← hz]
        have hz1 : n1 ≤ z.st ∧ z.st ≤ z.en ∧ z.en ≤ m ∧ (z.kids = [] ∨ (z.st = x.st ∧ z.en = x.en)) := by
          rw [← hz]
          dsimp only
          by_cases hm : m = q
          · rw [if_pos (by simpa using hm), if_pos (by simpa using hm)]
            exact ⟨by omega, by omega, by omega, .inl (h6 hm)⟩
          · rw [if_neg (by simpa using hm), if_neg (by simpa using hm)]
            exact ⟨by omega, h5, hx2, .inr ⟨rfl, rfl⟩⟩
        show _ ∧ (∀ y ∈ k :: ({ x with hd := s, mr := inBlk b n1 + 1, st := if (m == q) = true then inBlk b n1 + 1 else x.st, en := if (m == q) = true then inBlk b n1 + 1 else x.en } : Nd) :: t, _) ∧ Sps base (k :: ({ x with hd := s, mr := inBlk b n1 + 1, st := if (m == q) = true then inBlk b n1 + 1 else x.st, en := if (m == q) = true then inBlk b n1 + 1 else x.en } : Nd) :: t) (lkp base (k :: ({ x with hd := s, mr := inBlk b n1 + 1, st := if (m == q) = true then inBlk b n1 + 1 else x.st, en := if (m == q) = true then inBlk b n1 + 1 else x.en } : Nd) :: t)) ∧ ∀ i, i < base → Chn (lkp base (k :: ({ x with hd := s, mr := inBlk b n1 + 1, st := if (m == q) = true then inBlk b n1 + 1 else x.st, en := if (m == q) = true then inBlk b n1 + 1 else x.en } : Nd) :: t)) i m s [base, base + 1]
        rw [hz]
        have hkids : ∀ ks : List Nat, Chn (lkp (base + 1) (x :: t)) (base + 1) x.en x.st ks → Chn (lkp (base + 1) (x :: t)) (base + 1) x.en x.st ks := fun _ h => h
        -- the value's node stands where the child's stood: nobody's Kid is the first one
        have hlk : ∀ (i : Nat) (y : Nd), i ≠ 0 → lkp (base + 1) (x :: t) (base + 1 + i) = some y → lkp base (k :: z :: t) (base + 1 + i) = some y := by
          intro i y hi hy
          unfold lkp at hy ⊢
          rw [if_pos (by omega), show base + 1 + i - (base + 1) = (i - 1) + 1 by omega, List.getElem?_cons_succ] at hy
          rw [if_pos (by omega), show base + 1 + i - base = (i - 1) + 1 + 1 by omega, List.getElem?_cons_succ, List.getElem?_cons_succ]
          exact hy
        have hch : ∀ (ks : List Nat) (j top last : Nat), Chn (lkp (base + 1) (x :: t)) (base + 1 + j) top last ks → Chn (lkp base (k :: z :: t)) (base + 1 + j) top last ks := by
          intro ks
          induction ks with
          | nil => intro _ _ _ _; trivial
          | cons w ks ih =>
            intro j top last hh
            obtain ⟨y, e1, e2, e3, e4, e5⟩ := hh
            refine ⟨y, e1, ?_, e3, e4, ih _ _ _ e5⟩
            have := hlk (w - (base + 1)) y (by omega)
            rw [show base + 1 + (w - (base + 1)) = w by omega] at this
            exact this e2
        refine ⟨by omega, ?_, ?_, ?_⟩
        · intro y hy
          simp only [List.mem_cons] at hy
          rcases hy with rfl | rfl | hy
          · omega
          · exact hz1.2.2.1
          · exact h2 y (by simp [hy])
        · refine Sps.cons ?_ (by omega) (by rw [k4]; trivial)
          intro i y hi
          cases i with
          | zero =>
            simp at hi
            subst hi
            refine ⟨hz1.2.1, ?_⟩
            rcases hz1.2.2.2 with e | ⟨e1, e2⟩
            · rw [e]; trivial
            · rw [e1, e2, hzk]
              have := (h3 0 x rfl).2
              exact hch _ 0 _ _ this
          | succ i =>
            rw [List.getElem?_cons_succ] at hi
            have := h3 (i + 1) y (by rw [List.getElem?_cons_succ]; exact hi)
            exact ⟨this.1, hch _ _ _ _ this.2⟩
        · intro i hi
          refine ⟨k, hi, lkp_at (base := base) 0 rfl, by omega, by omega, z, by omega, lkp_at (base := base) 1 rfl, by omega, hz1.2.2.1, trivial⟩
    · cases he
theorem loop_sp {ent : Nat → Nat → InE} (h : SpE ent) (b : List Int) (c : Int) : ∀ (g s base : Nat) (ks : List Nat) (bl : List Nd) (K : List Nat) (L : List Nd) (n b0 s0 : Nat), base = b0 + bl.length → s0 ≤ s → (∀ y ∈ bl, y.en ≤ s) → Sps b0 bl (lkp b0 bl) → (∀ i, i < b0 → Chn (lkp b0 bl) i s s0 ks) →
    inLoop ent b c g s base ks bl = .ok (K, L, n) → s < n ∧ (∀ y ∈ L, y.en ≤ n) ∧ Sps b0 L (lkp b0 L) ∧ ∀ i, i < b0 → Chn (lkp b0 L) i n s0 K
  | 0, _, _, _, _, _, _, _, _, _, _, _, _, _, _, he => by cases he
  | g + 1, s, base, ks, bl, K, L, n, b0, s0, hb, hs, hy, hS, hC, he => by
    unfold inLoop at he
    cases hE : ent s base with
    | error e => rw [hE] at he; cases he
    | ok r =>
      obtain ⟨k, l, m⟩ := r
      rw [hE] at he
      dsimp only at he
      obtain ⟨h1, h2, h3, h4⟩ := h s base k l m hE
      have hg := blk_ge b m
      subst hb
      have hS' : Sps b0 (bl ++ l) (lkp b0 (bl ++ l)) := (hS.weak fun _ _ => lkp_left l).app (h3.weak fun _ _ => lkp_right bl)
      have hy' : ∀ y ∈ bl ++ l, y.en ≤ m := by
        intro y hm
        rcases List.mem_append.1 hm with hm | hm
        · have := hy y hm; omega
        · exact h2 y hm
      have hC' : ∀ i, i < b0 → Chn (lkp b0 (bl ++ l)) i m s0 (ks ++ k) := fun i hi =>
        Chn.app (Nat.le_refl s) h1 ((h4 i (by omega)).weak (fun _ _ => lkp_right bl) (Nat.le_refl _) (Nat.le_refl _)) hs ((hC i hi).weak (fun _ _ => lkp_left l) (Nat.le_refl _) (Nat.le_refl _))
      split at he
      · simp only [Except.ok.injEq, Prod.mk.injEq] at he
        obtain ⟨rfl, rfl, rfl⟩ := he
        exact ⟨by omega, fun y hm => by have := hy' y hm; omega, hS', fun i hi => (hC' i hi).weak (fun _ _ e => e) (by omega) (Nat.le_refl _)⟩
      · split at he
        · have hg2 := blk_ge b (inBlk b m + 1)
          obtain ⟨q1, q2⟩ := loop_sp h b c g _ _ _ _ K L n b0 s0 (by rw [List.length_append]; omega) (by omega) (fun y hm => by have := hy' y hm; omega) hS' (fun i hi => (hC' i hi).weak (fun _ _ e => e) (by omega) (Nat.le_refl _)) he
          exact ⟨by omega, q2⟩
        · cases he
theorem coll_sp {ent : Nat → Nat → InE} (h : SpE ent) (b : List Int) (c : Int) {s base : Nat} {K : List Nat} {L : List Nd} {n : Nat} (he : inColl ent b c s base = .ok (K, L, n)) : s < n ∧ (∀ y ∈ L, y.en ≤ n) ∧ Sps base L (lkp base L) ∧ ∀ i, i < base → Chn (lkp base L) i n s K := by
  unfold inColl at he
  have hg := blk_ge b (s + 1)
  split at he
  · simp only [Except.ok.injEq, Prod.mk.injEq] at he
    obtain ⟨rfl, rfl, rfl⟩ := he
    exact ⟨by omega, by simp, Sps.nil _ _, fun _ _ => trivial⟩
  · obtain ⟨q1, q2⟩ := loop_sp h b c _ _ _ _ _ K L n base s (by simp) (by omega) (by simp) (Sps.nil _ _) (fun _ _ => Chn.nil) he
    exact ⟨by omega, q2⟩
theorem cont_sp {child : Nat → Nat → InR} (h : SpC child) {deep : Bool} {b : List Int} {fl : Bool} {s base : Nat} {x : Nd} {l : List Nd} {m : Nat} (he : inCont child deep b fl s base = .ok (x, l, m)) :
    s ≤ m ∧ (∀ y ∈ l, y.en ≤ m) ∧ Sps base l (lkp base l) ∧ (∀ i, i < base → Chn (lkp base l) i m s x.kids) ∧ ((x.kids = [] ∧ l = []) ∨ (s < m ∧ x.kind ≠ 0)) := by
  unfold inCont at he
  split at he
  · split at he
    · simp only [Except.ok.injEq, Prod.mk.injEq] at he
      obtain ⟨rfl, rfl, rfl⟩ := he
      exact ⟨by omega, by simp, Sps.nil _ _, fun _ _ => by simp [Nd.nil, Chn], .inl ⟨rfl, rfl⟩⟩
    · cases he
  · split at he
    · split at he
      · cases he
      · cases hc : inColl (inItem child) b 93 s base with
        | error e => rw [hc] at he; cases he
        | ok r =>
          obtain ⟨K, L, n⟩ := r
          rw [hc] at he
          simp only [Except.ok.injEq, Prod.mk.injEq] at he
          obtain ⟨rfl, rfl, rfl⟩ := he
          obtain ⟨q1, q2, q3, q4⟩ := coll_sp (item_sp h) b 93 hc
          exact ⟨by omega, q2, q3, q4, .inr ⟨q1, by simp⟩⟩
    · split at he
      · split at he
        · cases he
        · cases hc : inColl (inPair child b) b 125 s base with
          | error e => rw [hc] at he; cases he
          | ok r =>
            obtain ⟨K, L, n⟩ := r
            rw [hc] at he
            simp only [Except.ok.injEq, Prod.mk.injEq] at he
            obtain ⟨rfl, rfl, rfl⟩ := he
            obtain ⟨q1, q2, q3, q4⟩ := coll_sp (pair_sp h b) b 125 hc
            exact ⟨by omega, q2, q3, q4, .inr ⟨q1, by simp⟩⟩
      · split at he
        · cases he
        · simp only [Except.ok.injEq, Prod.mk.injEq] at he
          obtain ⟨rfl, rfl, rfl⟩ := he
          exact ⟨by omega, by simp, Sps.nil _ _, fun _ _ => by simp [Nd.nil, Chn], .inl ⟨rfl, rfl⟩⟩
theorem nodeG_sp {child : Nat → Nat → InR} (h : SpC child) (deep : Bool) (b : List Int) (fl : Bool) : SpC (inNodeG child deep b fl) := by
  intro s base l n he
  unfold inNodeG at he
  split at he
  · obtain ⟨p, hp⟩ : ∃ p, Pr.takeP (b.drop s) = p := ⟨_, rfl⟩
    rw [hp] at he
    obtain ⟨s2, hs2⟩ : ∃ s2, inBlk b (s + p.2.2.1) = s2 := ⟨_, rfl⟩
    have hg := blk_ge b (s + p.2.2.1)
    rw [hs2] at he hg
    cases hc : inCont child deep b fl s2 (base + 1) with
    | error e => rw [hc] at he; cases he
    | ok r =>
      obtain ⟨x, L, m⟩ := r
      rw [hc] at he
      simp only [inDone] at he
      obtain ⟨q1, q2, q3, q4, q5⟩ := cont_sp h hc
      split at he
      · cases he
      · split at he
        · rename_i hk
          simp only [Except.ok.injEq, Prod.mk.injEq] at he
          obtain ⟨rfl, rfl⟩ := he
          rcases q5 with ⟨e1, rfl⟩ | ⟨_, e⟩
          · refine ⟨by omega, by simp [inFin], Sps.cons (Sps.nil _ _) (by simp [inFin]) (by simp [inFin, e1, Chn]), _, _, rfl, by simp [inFin], by simp [inFin], fun _ => by simp [inFin, e1]⟩
          · exact absurd hk e
        · simp only [Except.ok.injEq, Prod.mk.injEq] at he
          obtain ⟨rfl, rfl⟩ := he
          obtain ⟨u, hu⟩ : ∃ u, (if p.2.2.1 = 0 then s2 else s) = u := ⟨_, rfl⟩
          have hu1 : s ≤ u ∧ u ≤ s2 := by rw [← hu]; split <;> omega
          rw [hu]
          refine ⟨by omega, ?_, ?_, _, _, rfl, by simp [inFin]; omega, by simp [inFin]; omega, fun e => ?_⟩
          · intro y hy
            rcases List.mem_cons.1 hy with rfl | hy
            · simp [inFin]
            · exact q2 y hy
          · refine Sps.cons (q3.weak fun _ _ => lkp_cons _) (by simp [inFin]; omega) ?_
            exact (q4 base (by omega)).weak (fun _ _ => lkp_cons _) (Nat.le_refl _) (by simp [inFin]; omega)
          · rcases q5 with ⟨e1, _⟩ | ⟨e1, _⟩
            · simp [inFin, e1]
            · omega
  · cases he
theorem node_sp (b : List Int) : ∀ (f : Nat) (fl : Bool), SpC (inNode f b fl)
  | 0, fl => nodeG_sp (fun s base l n h => by cases h) true b fl
  | f + 1, fl => nodeG_sp (node_sp b f true) false b fl
end Go.Proofs.Ytcnnbbgfmilblaa
