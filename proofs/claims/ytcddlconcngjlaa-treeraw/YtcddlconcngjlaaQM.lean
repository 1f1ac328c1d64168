/- Chapter 13: a list that is a tree, as a plain thing; what the document's reader of a line makes is one. No program. · Chapter 13: of a tree where each node's own tree ends: a function. No program. · Chapter 13: tree.Valid of a tree. · Chapter 13: tree.Valid of a tree: the whole list. · Chapter 13: nodes of any kind in memory; whether there is a node, and where its tree ends, of any list. · Nodes of any kind in memory of our own; a copy of a list under way. No program. · Chapter 13: tree.Valid of any list. · Chapter 13: tree.Valid of any list. · Chapter 13: the law's trees: the tree of a play's text, or one scalar. · slices.Clone of nodes and of whole numbers. · Chapter 13: the tree below a node as a list of its own: Sub, and the copy that it makes. · Chapter 13: tree.Sub of any list. · Chapter 13: the copy of a list, its Kids counted by each of the closures. Written by tools/tree/copied.py. · slices.Grow of nothing; slices.Concat of three lists of nodes. · Chapter 13: of a tree, where a node's own tree ends, as its Kids lead there. No program. · Chapter 13: lists of nodes of any kind that are trees: Valid says so; the tree below a node is one. No program. · Chapter 13: of a tree, the way down to a node: whose Kid it is. No program. · Chapter 13: what is below a node below a node is the same, told of the whole or of the part. No program. · Chapter 13: a tree in place of the one below a node, as a list; where its nodes' trees end. No program. · Chapter 13: tree.Graft of any lists, where there is a node. · Chapter 13: trees in memory, whoever made them. · Chapter 13: tree.Depth of any list. · Chapter 13: what is below a node is no deeper than the whole. No program. · Chapter 13: how deep a tree is: the most of its nodes' levels. No program. · Chapter 13: how deep a tree is that was put in a collection, in place of a leaf. No program. · Chapter 13: tree.Shift of any list. · Chapter 13: tree.Graft of any lists, where there is a node: its walk. -/
import Derived.Test.YtcddlconcngjlaaQI
import Derived.Test.YtcddlconcngjlaaQJ
import Derived.Test.YtcddlconcngjlaaQA
import Derived.StillTailTactics
import Derived.Deep.CutRange
import Derived.Deep.DeepCutAuto
import Derived.Test.YtcddlconcngjlaaQH
import Derived.Test.YtcddlconcngjlaaQK
import Derived.Lib.AppendZeros
import Derived.Test.YtcddlconcngjlaaQL
set_option linter.unusedSimpArgs false
set_option linter.unusedVariables false
namespace Go.Proofs.Ytcddlconcngjlaa
open Go.RowKit
set_option linter.unusedVariables false
set_option maxRecDepth 100000
/-- One behind the other, from s to e. -/
def TRow (T : Nat → Nat → Prop) : Nat → List Nat → Nat → Prop
  | s, [], e => s = e
  | s, k :: ks, e => k = s ∧ ∃ e1, T k e1 ∧ TRow T e1 ks e
theorem TRow.nil {T : Nat → Nat → Prop} {s : Nat} : TRow T s [] s := rfl
theorem TRow.imp {T U : Nat → Nat → Prop} (h : ∀ k e, T k e → U k e) : ∀ {ks : List Nat} {s e : Nat}, TRow T s ks e → TRow U s ks e
  | [], _, _, g => g
  | k :: ks, s, e, ⟨g1, e1, g2, g3⟩ => ⟨g1, e1, h _ _ g2, g3.imp h⟩
theorem TRow.app {T : Nat → Nat → Prop} {l : List Nat} : ∀ {ks : List Nat} {s e f : Nat}, TRow T s ks e → TRow T e l f → TRow T s (ks ++ l) f
  | [], _, _, _, g, g2 => by have : _ = _ := g; subst this; exact g2
  | k :: ks, s, e, f, ⟨g1, e1, g2, g3⟩, g4 => ⟨g1, e1, g2, g3.app g4⟩
/-- A tree, so deep at most, from the node i to e. -/
def Trd (f : Nat → Option Nd) : Nat → Nat → Nat → Prop
  | 0, i, e => ∃ x, f i = some x ∧ x.kids = [] ∧ e = i + 1
  | d + 1, i, e => ∃ x, f i = some x ∧ ((x.kids = [] ∧ e = i + 1) ∨ ((x.kind = 2 ∨ (x.kind = 3 ∧ x.kids.length % 2 = 0)) ∧ TRow (Trd f d) (i + 1) x.kids e))
theorem TRow.ge {T : Nat → Nat → Prop} (hT : ∀ k e, T k e → k < e) : ∀ {ks : List Nat} {s e : Nat}, TRow T s ks e → s ≤ e
  | [], s, e, g => by have : s = e := g; omega
  | k :: ks, s, e, ⟨g1, e1, g2, g3⟩ => by have := hT _ _ g2; have := g3.ge hT; omega
theorem Trd.lt {f : Nat → Option Nd} : ∀ {d i e : Nat}, Trd f d i e → i < e
  | 0, i, e, ⟨x, _, _, h⟩ => by omega
  | d + 1, i, e, ⟨x, _, h⟩ => by
    rcases h with ⟨_, h⟩ | ⟨_, h⟩
    · omega
    · have := h.ge (fun k e g => Trd.lt g); omega
theorem Trd.all {f g : Nat → Option Nd} (hfg : ∀ k y, f k = some y → g k = some y) : ∀ {d i e : Nat}, Trd f d i e → Trd g d i e
  | 0, i, e, ⟨x, h1, h2⟩ => ⟨x, hfg _ _ h1, h2⟩
  | d + 1, i, e, ⟨x, h1, h⟩ => by
    refine ⟨x, hfg _ _ h1, ?_⟩
    rcases h with h | ⟨h2, h3⟩
    · exact .inl h
    · exact .inr ⟨h2, h3.imp fun k e g => Trd.all hfg g⟩
theorem TRow.past {T U : Nat → Nat → Prop} {b : Nat} (hT : ∀ k e, T k e → k < e) (h : ∀ k e, b ≤ k → T k e → U k e) : ∀ {ks : List Nat} {s e : Nat}, b ≤ s → TRow T s ks e → TRow U s ks e
  | [], _, _, _, g => g
  | k :: ks, s, e, hs, ⟨g1, e1, g2, g3⟩ => ⟨g1, e1, h _ _ (by omega) g2, g3.past hT h (by have := hT _ _ g2; omega)⟩
theorem Trd.past {f g : Nat → Option Nd} {b : Nat} (hfg : ∀ k y, b ≤ k → f k = some y → g k = some y) : ∀ {d i e : Nat}, b ≤ i → Trd f d i e → Trd g d i e
  | 0, i, e, hi, ⟨x, h1, h2⟩ => ⟨x, hfg _ _ hi h1, h2⟩
  | d + 1, i, e, hi, ⟨x, h1, h⟩ => by
    refine ⟨x, hfg _ _ hi h1, ?_⟩
    rcases h with h | ⟨h2, h3⟩
    · exact .inl h
    · exact .inr ⟨h2, h3.past (b := b) (fun k e g => Trd.lt g) (fun k e hk q => Trd.past hfg hk q) (by omega)⟩
def TrC (d : Nat) (child : Nat → Nat → InR) : Prop := ∀ s base l n, child s base = .ok (l, n) → Trd (lkp base l) d base (base + l.length)
def TrE (d : Nat) (mp : Bool) (ent : Nat → Nat → InE) : Prop := ∀ s base ks l n, ent s base = .ok (ks, l, n) → TRow (Trd (lkp base l) d) base ks (base + l.length) ∧ (mp = true → ks.length % 2 = 0)
theorem item_tr {d : Nat} {child : Nat → Nat → InR} (h : TrC d child) : TrE d false (inItem child) := by
  intro s base ks l n he
  unfold inItem at he
  cases hc : child s base with
  | error e => rw [hc] at he; cases he
  | ok y =>
    obtain ⟨l', n'⟩ := y
    rw [hc] at he
    dsimp only at he
    split at he
    · cases he
    · simp only [Except.ok.injEq, Prod.mk.injEq] at he
      obtain ⟨rfl, rfl, rfl⟩ := he
      exact ⟨⟨rfl, _, h _ _ _ _ hc, rfl⟩, fun e => by cases e⟩
theorem Trd.leaf {f : Nat → Option Nd} {d i : Nat} {x : Nd} (h : f i = some x) (hk : x.kids = []) : Trd f d i (i + 1) := by
  cases d with
  | zero => exact ⟨x, h, hk, rfl⟩
  | succ d => exact ⟨x, h, .inl ⟨hk, rfl⟩⟩
theorem pair_tr {d : Nat} {child : Nat → Nat → InR} (h : TrC d child) (b : List Int) : TrE d true (inPair child b) := by
  intro s base ks l n he
  unfold inPair at he
  cases hk : inKey b s with
  | none => rw [hk] at he; cases he
  | some kn =>
    obtain ⟨k, n1⟩ := kn
    rw [hk] at he
    dsimp only at he
    split at he
    · cases hc : child (inBlk b (inBlk b n1 + 1)) (base + 1) with
      | error e => rw [hc] at he; cases he
      | ok y =>
        obtain ⟨l', m⟩ := y
        rw [hc] at he
        simp only [Except.ok.injEq, Prod.mk.injEq] at he
        obtain ⟨rfl, rfl, rfl⟩ := he
        have h1 := h _ _ _ _ hc
        refine ⟨⟨rfl, base + 1, Trd.leaf (lkp_at (base := base) 0 rfl) (key_sp hk).2.2.2, rfl, base + 1 + l'.length, ?_, ?_⟩, fun _ => by simp⟩
        · generalize (m == inBlk b (inBlk b n1 + 1)) = t
          generalize inBlk b n1 + 1 = mk
          cases l' with
          | nil => have := h1.lt; simp at this
          | cons y t' =>
            have hpast : ∀ k' y', base + 2 ≤ k' → lkp (base + 1) (y :: t') k' = some y' → lkp base (k :: inVal (y :: t') s mk t) k' = some y' := by
              intro k' y' hk' hy
              unfold lkp at hy ⊢
              rw [if_pos (by omega), show k' - (base + 1) = (k' - (base + 2)) + 1 by omega, List.getElem?_cons_succ] at hy
              rw [if_pos (by omega), show k' - base = (k' - (base + 2)) + 1 + 1 by omega, List.getElem?_cons_succ]
              exact hy
            have hy0 : lkp (base + 1) (y :: t') (base + 1) = some y := lkp_at (base := base + 1) 0 rfl
            obtain ⟨y2, hy2, e1, e2⟩ : ∃ y2 : Nd, lkp base (k :: inVal (y :: t') s mk t) (base + 1) = some y2 ∧ y2.kind = y.kind ∧ y2.kids = y.kids := ⟨_, lkp_at (base := base) 1 rfl, rfl, rfl⟩
            cases d with
            | zero =>
              obtain ⟨x, hx, q1, q2⟩ := h1
              rw [hy0] at hx
              injection hx with hx
              subst hx
              exact ⟨y2, hy2, by rw [e2]; exact q1, q2⟩
            | succ d =>
              obtain ⟨x, hx, q⟩ := h1
              rw [hy0] at hx
              injection hx with hx
              subst hx
              refine ⟨y2, hy2, ?_⟩
              rw [e1, e2]
              rcases q with q | ⟨q1, q2⟩
              · exact .inl q
              · exact .inr ⟨q1, q2.past (b := base + 2) (fun k e g => Trd.lt g) (fun k e hk' g => g.past (b := base + 2) hpast hk') (by omega)⟩
        · show base + 1 + l'.length = base + (k :: inVal l' s (inBlk b n1 + 1) (m == inBlk b (inBlk b n1 + 1))).length
          rw [List.length_cons, val_len]
          omega
    · cases he
theorem loop_tr {d : Nat} {mp : Bool} {ent : Nat → Nat → InE} (h : TrE d mp ent) (b : List Int) (c : Int) : ∀ (g s base : Nat) (ks : List Nat) (bl : List Nd) (K : List Nat) (L : List Nd) (n b0 : Nat), base = b0 + bl.length → TRow (Trd (lkp b0 bl) d) b0 ks base → (mp = true → ks.length % 2 = 0) →
    inLoop ent b c g s base ks bl = .ok (K, L, n) → TRow (Trd (lkp b0 L) d) b0 K (b0 + L.length) ∧ (mp = true → K.length % 2 = 0)
  | 0, _, _, _, _, _, _, _, _, _, _, _, he => by cases he
  | g + 1, s, base, ks, bl, K, L, n, b0, hb, hS, hM, he => by
    unfold inLoop at he
    cases hE : ent s base with
    | error e => rw [hE] at he; cases he
    | ok r =>
      obtain ⟨k, l, m⟩ := r
      rw [hE] at he
      dsimp only at he
      obtain ⟨h4, h5⟩ := h s base k l m hE
      subst hb
      have hC' : TRow (Trd (lkp b0 (bl ++ l)) d) b0 (ks ++ k) (b0 + (bl ++ l).length) := by
        refine (hS.imp fun _ _ q => q.all fun _ _ => lkp_left l).app ?_
        have := h4.imp fun _ _ q => q.all (g := lkp b0 (bl ++ l)) fun _ _ => lkp_right bl
        rwa [Nat.add_assoc, ← List.length_append] at this
      have hM' : mp = true → (ks ++ k).length % 2 = 0 := fun e => by rw [List.length_append]; have := hM e; have := h5 e; omega
      split at he
      · simp only [Except.ok.injEq, Prod.mk.injEq] at he
        obtain ⟨rfl, rfl, rfl⟩ := he
        exact ⟨hC', hM'⟩
      · split at he
        · exact loop_tr h b c g _ _ _ _ K L n b0 (by rw [List.length_append]; omega) (by rw [List.length_append, ← Nat.add_assoc] at hC'; exact hC') hM' he
        · cases he
theorem coll_tr {d : Nat} {mp : Bool} {ent : Nat → Nat → InE} (h : TrE d mp ent) (b : List Int) (c : Int) {s base : Nat} {K : List Nat} {L : List Nd} {n : Nat} (he : inColl ent b c s base = .ok (K, L, n)) : TRow (Trd (lkp base L) d) base K (base + L.length) ∧ (mp = true → K.length % 2 = 0) := by
  unfold inColl at he
  split at he
  · simp only [Except.ok.injEq, Prod.mk.injEq] at he
    obtain ⟨rfl, rfl, rfl⟩ := he
    exact ⟨rfl, fun _ => rfl⟩
  · exact loop_tr h b c _ _ _ _ _ K L n base (by simp) TRow.nil (fun _ => by simp) he
theorem nodeG_tr {d : Nat} {child : Nat → Nat → InR} {deep : Bool} (h : deep = false → ∃ d', d = d' + 1 ∧ TrC d' child) (b : List Int) (fl : Bool) : TrC d (inNodeG child deep b fl) := by
  intro s base l n he
  unfold inNodeG at he
  split at he
  · obtain ⟨p, hp⟩ : ∃ p, Pr.takeP (b.drop s) = p := ⟨_, rfl⟩
    rw [hp] at he
    obtain ⟨s2, hs2⟩ : ∃ s2, inBlk b (s + p.2.2.1) = s2 := ⟨_, rfl⟩
    rw [hs2] at he
    cases hc : inCont child deep b fl s2 (base + 1) with
    | error e => rw [hc] at he; cases he
    | ok r =>
      obtain ⟨x, L, m⟩ := r
      rw [hc] at he
      simp only [inDone] at he
      have hcx : (x.kids = [] ∧ L = []) ∨ (x.kind ≠ 0 ∧ (x.kind = 2 ∨ (x.kind = 3 ∧ x.kids.length % 2 = 0)) ∧ ∃ d', d = d' + 1 ∧ TRow (Trd (lkp (base + 1) L) d') (base + 1) x.kids (base + 1 + L.length)) := by
        unfold inCont at hc
        split at hc
        · split at hc
          · simp only [Except.ok.injEq, Prod.mk.injEq] at hc
            obtain ⟨rfl, rfl, _⟩ := hc
            exact .inl ⟨rfl, rfl⟩
          · cases hc
        · split at hc
          · split at hc
            · cases hc
            · rename_i hd
              obtain ⟨d', rfl, hch⟩ := h (by simpa using hd)
              cases hcc : inColl (inItem child) b 93 s2 (base + 1) with
              | error e => rw [hcc] at hc; cases hc
              | ok r =>
                obtain ⟨K, L', n'⟩ := r
                rw [hcc] at hc
                simp only [Except.ok.injEq, Prod.mk.injEq] at hc
                obtain ⟨rfl, rfl, rfl⟩ := hc
                exact .inr ⟨by simp, .inl rfl, d', rfl, (coll_tr (item_tr hch) b 93 hcc).1⟩
          · split at hc
            · split at hc
              · cases hc
              · rename_i hd
                obtain ⟨d', rfl, hch⟩ := h (by simpa using hd)
                cases hcc : inColl (inPair child b) b 125 s2 (base + 1) with
                | error e => rw [hcc] at hc; cases hc
                | ok r =>
                  obtain ⟨K, L', n'⟩ := r
                  rw [hcc] at hc
                  simp only [Except.ok.injEq, Prod.mk.injEq] at hc
                  obtain ⟨rfl, rfl, rfl⟩ := hc
                  have := coll_tr (pair_tr hch b) b 125 hcc
                  exact .inr ⟨by simp, .inr ⟨rfl, this.2 rfl⟩, d', rfl, this.1⟩
            · split at hc
              · cases hc
              · simp only [Except.ok.injEq, Prod.mk.injEq] at hc
                obtain ⟨rfl, rfl, _⟩ := hc
                exact .inl ⟨rfl, rfl⟩
      have fin : ∀ (tg an : List Int) (a e : Nat), Trd (lkp base (inFin x tg an a e :: L)) d base (base + (inFin x tg an a e :: L).length) := by
        intro tg an a e
        have hx : lkp base (inFin x tg an a e :: L) base = some (inFin x tg an a e) := lkp_at (base := base) 0 rfl
        rcases hcx with ⟨q1, rfl⟩ | ⟨_, q2, d', rfl, q3⟩
        · exact Trd.leaf hx q1
        · refine ⟨_, hx, .inr ⟨q2, ?_⟩⟩
          have := q3.imp fun _ _ q => q.all (g := lkp base (inFin x tg an a e :: L)) fun _ _ => lkp_cons _
          rw [List.length_cons, show base + (L.length + 1) = base + 1 + L.length by omega]
          exact this
      split at he
      · cases he
      · split at he
        · simp only [Except.ok.injEq, Prod.mk.injEq] at he
          obtain ⟨rfl, rfl⟩ := he
          exact fin _ _ _ _
        · simp only [Except.ok.injEq, Prod.mk.injEq] at he
          obtain ⟨rfl, rfl⟩ := he
          exact fin _ _ _ _
  · cases he
/-- What the reader makes is a tree. -/
theorem node_tr (b : List Int) : ∀ (f : Nat) (fl : Bool), TrC f (inNode f b fl)
  | 0, fl => nodeG_tr (fun h => by cases h) b fl
  | f + 1, fl => nodeG_tr (fun _ => ⟨f, rfl, node_tr b f true⟩) b fl
theorem TRow.one {T U : Nat → Nat → Prop} (h : ∀ k e e', T k e → U k e' → e = e') : ∀ {ks : List Nat} {s e e' : Nat}, TRow T s ks e → TRow U s ks e' → e = e'
  | [], s, e, e', g, g' => by have h1 : s = e := g; have h2 : s = e' := g'; omega
  | k :: ks, s, e, e', ⟨g1, e1, g2, g3⟩, ⟨g1', e1', g2', g3'⟩ => by
    have := h _ _ _ g2 g2'
    subst this
    exact g3.one h g3'
theorem Trd.one {f : Nat → Option Nd} : ∀ {d d' i e e' : Nat}, Trd f d i e → Trd f d' i e' → e = e' := by
  intro d
  induction d with
  | zero =>
    intro d' i e e' h h'
    obtain ⟨x, h1, h2, h3⟩ := h
    cases d' with
    | zero => obtain ⟨_, _, _, g⟩ := h'; omega
    | succ d' =>
      obtain ⟨y, g1, g⟩ := h'
      rw [h1] at g1
      injection g1 with g1
      subst g1
      rcases g with ⟨_, g⟩ | ⟨_, g⟩
      · omega
      · rw [h2] at g
        have : i + 1 = e' := g
        omega
  | succ d ih =>
    intro d' i e e' h h'
    obtain ⟨x, h1, h⟩ := h
    cases d' with
    | zero =>
      obtain ⟨y, g1, g2, g3⟩ := h'
      rw [h1] at g1
      injection g1 with g1
      subst g1
      rcases h with ⟨_, h⟩ | ⟨_, h⟩
      · omega
      · rw [g2] at h
        have : i + 1 = e := h
        omega
    | succ d' =>
      obtain ⟨y, g1, g⟩ := h'
      rw [h1] at g1
      injection g1 with g1
      subst g1
      rcases h with ⟨q1, h⟩ | ⟨_, h⟩
      · rcases g with ⟨_, g⟩ | ⟨_, g⟩
        · omega
        · rw [q1] at g
          have : i + 1 = e' := g
          omega
      · rcases g with ⟨q1, g⟩ | ⟨_, g⟩
        · rw [q1] at h
          have : i + 1 = e := h
          omega
        · exact TRow.one (T := Trd f d) (U := Trd f d') (fun k a b p q => ih p q) h g
/-- Each node of a tree is a tree's first. -/
theorem TRow.each {T : Nat → Nat → Prop} {P : Nat → Prop} (hT : ∀ k e, T k e → ∀ i, k ≤ i → i < e → P i) : ∀ {ks : List Nat} {s e : Nat}, TRow T s ks e → ∀ i, s ≤ i → i < e → P i
  | [], s, e, g, i, h1, h2 => by have : s = e := g; omega
  | k :: ks, s, e, ⟨g1, e1, g2, g3⟩, i, h1, h2 => by
    by_cases h : i < e1
    · exact hT _ _ g2 i (by omega) h
    · exact g3.each hT i (by omega) h2
theorem Trd.each {f : Nat → Option Nd} : ∀ {d i e : Nat}, Trd f d i e → ∀ j, i ≤ j → j < e → ∃ d' e', Trd f d' j e' := by
  intro d
  induction d with
  | zero =>
    intro i e h j h1 h2
    have h' := h
    obtain ⟨x, _, _, h3⟩ := h'
    obtain rfl : j = i := by omega
    exact ⟨0, e, h⟩
  | succ d ih =>
    intro i e h j h1 h2
    by_cases hj : j = i
    · subst hj; exact ⟨d + 1, e, h⟩
    · obtain ⟨x, _, h⟩ := h
      rcases h with ⟨_, h⟩ | ⟨_, h⟩
      · omega
      · exact h.each (P := fun j => ∃ d' e', Trd f d' j e') (fun k e g i g1 g2 => ih g i g1 g2) j (by omega) h2
/-- Where each node's tree ends. -/
structure Ends' (l : List Nd) (E : Nat → Nat) : Prop where
  root : E 0 = l.length
  node : ∀ (i : Nat) (x : Nd), l[i]? = some x → i < E i ∧ E i ≤ l.length ∧ (x.kids = [] ∨ x.kind = 2 ∨ (x.kind = 3 ∧ x.kids.length % 2 = 0)) ∧ TRow (fun k e => i < k ∧ k < l.length ∧ e = E k) (i + 1) x.kids (E i)
open Classical in
noncomputable def tEnd (l : List Nd) (i : Nat) : Nat := if h : ∃ e d, Trd (lkp 0 l) d i e then h.choose else 0
theorem tEnd_is {l : List Nd} {d i e : Nat} (h : Trd (lkp 0 l) d i e) : tEnd l i = e := by
  unfold tEnd
  have hx : ∃ e d, Trd (lkp 0 l) d i e := ⟨e, d, h⟩
  rw [dif_pos hx]
  obtain ⟨d', h'⟩ := hx.choose_spec
  exact h'.one h
theorem Trd.up2 {f : Nat → Option Nd} : ∀ {d i e : Nat}, Trd f d i e → ∃ x, f i = some x ∧ ((x.kids = [] ∧ e = i + 1) ∨ ((x.kind = 2 ∨ (x.kind = 3 ∧ x.kids.length % 2 = 0)) ∧ TRow (Trd f (d - 1)) (i + 1) x.kids e))
  | 0, i, e, ⟨x, h1, h2⟩ => ⟨x, h1, .inl h2⟩
  | d + 1, i, e, h => h
theorem lkp_zero {l : List Nd} {i : Nat} : lkp 0 l i = l[i]? := by unfold lkp; rw [if_pos (Nat.zero_le _), Nat.sub_zero]
theorem Trd.le {l : List Nd} : ∀ {d i e : Nat}, Trd (lkp 0 l) d i e → e ≤ l.length := by
  have lt : ∀ {i : Nat} {x : Nd}, lkp 0 l i = some x → i < l.length := fun h => by rw [lkp_zero] at h; exact (List.getElem?_eq_some_iff.1 h).1
  intro d
  induction d with
  | zero => rintro i e ⟨x, h1, _, rfl⟩; exact lt h1
  | succ d ih =>
    rintro i e ⟨x, h1, h⟩
    rcases h with ⟨_, rfl⟩ | ⟨_, h⟩
    · exact lt h1
    · have hi := lt h1
      have : ∀ {ks : List Nat} {s e : Nat}, s ≤ l.length → TRow (Trd (lkp 0 l) d) s ks e → e ≤ l.length := by
        intro ks
        induction ks with
        | nil => intro s e hs g; have : s = e := g; omega
        | cons k ks ihk => rintro s e hs ⟨g1, e1, g2, g3⟩; exact ihk (ih g2) g3
      exact this (by omega) h
theorem ends_of {l : List Nd} {d : Nat} (h : Trd (lkp 0 l) d 0 l.length) : Ends' l (tEnd l) := by
  refine ⟨tEnd_is h, fun i x hx => ?_⟩
  have hi := (List.getElem?_eq_some_iff.1 hx).1
  obtain ⟨d', e, ht⟩ := h.each i (Nat.zero_le _) hi
  have hE := tEnd_is ht
  rw [hE]
  have ht' := ht.up2
  refine ⟨ht.lt, ht.le, ?_⟩
  obtain ⟨y, h1, h2⟩ := ht'
  rw [lkp_zero, hx] at h1
  injection h1 with h1
  subst h1
  rcases h2 with ⟨q1, q2⟩ | ⟨q1, q2⟩
  · refine ⟨.inl q1, ?_⟩
    rw [q1]
    exact q2.symm
  · refine ⟨.inr q1, ?_⟩
    have hle := ht.le
    have g := q2.past (U := fun k e => i < k ∧ k < l.length ∧ e = tEnd l k) (b := i + 1) (fun k e g => Trd.lt g) (fun k e hk g => ⟨by omega, by have := g.lt; have := g.le; omega, (tEnd_is g).symm⟩) (Nat.le_refl _)
    exact g
set_option linter.unusedSimpArgs false
/-- A list of nodes in memory, looked at. -/
structure Look (W : World) (g n cap : Nat) (l : List Nd) : Prop where
  len : l.length = n
  le : n ≤ cap
  max : cap ≤ 9223372036854775807
  at_ : ∀ (i : Nat) (x : Nd), l[i]? = some x → ∃ A c, x.kids.length ≤ c ∧ c ≤ 9223372036854775807 ∧ RdC W A (kidC x.kids) ∧ ∀ (j : Nat) (u : Value), (ndC (x, .slice A x.kids.length c))[j]? = some u → W.cell? ⟨g, i * 10 + j, none⟩ = some u
theorem Look.of {B : Nat} {W : World} {g n cap : Nat} {P : List NK} (h : Nds B W (.slice (some ⟨g, 0, none⟩) n cap) P) (hn : P.length = n) (h0 : 0 < n) : Look W g n cap (lst P) := by
  subst hn
  obtain ⟨g', cap', e, h1, h2, h3, h4⟩ := h.form h0
  simp only [Value.slice.injEq, Option.some.injEq, Addr.mk.injEq] at e
  obtain ⟨⟨rfl, _, _⟩, _, rfl⟩ := e
  refine ⟨lst_len P, h1, h2, ?_⟩
  intro i x hi
  obtain ⟨p, hp, rfl⟩ : ∃ p, P[i]? = some p ∧ p.1 = x := by
    simp only [lst, List.getElem?_map, Option.map_eq_some_iff] at hi
    exact hi
  have hk := h.kid i p hp
  obtain ⟨A, c, e, hc1, hc2, _⟩ := own_form hk
  refine ⟨A, c, hc1, hc2, ?_, fun j u hu => h.cell hp j u (by rw [← hu, ← e])⟩
  rw [e] at hk
  exact RdC.own hk
theorem Look.below {W W' : World} {g n cap : Nat} {l : List Nd} (h : Look W g n cap l) (hb : Below W.heap.size W W') : Look W' g n cap l :=
  ⟨h.len, h.le, h.max, fun i x hx => by obtain ⟨A, c, q1, q2, q3, q4⟩ := h.at_ i x hx; exact ⟨A, c, q1, q2, q3.below hb, fun j u hu => cell_keep hb (q4 j u hu)⟩⟩
theorem coll_at (W : World) (kd : Int) (v1 v2 v3 v4 v5 v6 v7 v8 v9 : Value) : Calls Try.prog 46 #[.agg #[.int .i64 kd, v1, v2, v3, v4, v5, v6, v7, v8, v9]] W fun e w' => e = .returned (.bool (kd == 2 || kd == 3)) ∧ Below W.heap.size W w' := by
  have hb : Below W.heap.size W (W.alloc (.cells #[.int .i64 kd, v1, v2, v3, v4, v5, v6, v7, v8, v9] 41)) := (Below.refl _ _).alloc (Nat.le_refl _) _
  obtain ⟨W1, hW1⟩ : ∃ z, W.alloc (.cells #[.int .i64 kd, v1, v2, v3, v4, v5, v6, v7, v8, v9] 41) = z := ⟨_, rfl⟩
  have c0 : W1.cell? ⟨W.heap.size, 0, none⟩ = some (.int .i64 kd) := by rw [← hW1, World.cell?_alloc_mark]; rfl
  rw [hW1] at hb
  have HB := Lib.hid hb
  clear hb
  go_enter Try.func46, Try.ntmps46
  by_cases h2 : kd = 2
  · subst h2
    go_wp2_with fail
    go_ret
    exact ⟨rfl, HB.out⟩
  · have e2 : (kd == 2) = false := beq_eq_false_iff_ne.2 h2
    go_wp2_with fail
    go_ret
    exact ⟨by rw [e2]; rfl, HB.out⟩
theorem run_make_ints (n : Nat) (h : n ≤ 1000000) (w : World) :
    (Instr.makeSlice 22 (.int .i64 (n : Int)) (.int .i64 (n : Int))).run Try.prog w = .ok (.slice (some ⟨w.heap.size, 0, none⟩) n n) (w.alloc (.cells ((List.replicate n (0 : Int)).map (Value.int .i64)).toArray 3)) := by
  obtain ⟨i, hi, hz, h1, h2⟩ := info_parts int_info
  have hb : (i.bytes : Int) * (n : Int) ≤ 281474976710656 := by rw [h2]; omega
  have hr := run_make (P := Try.prog) w 22 3 i _ Try.underlying22 hi hz .i64 .i64 n n (by omega) (by omega) hb (by omega)
  simp only [Int.toNat_natCast] at hr
  rw [hr]
  have e : madeCells (Value.int IntKind.i64 0).cells (n * i.size) = ((List.replicate n (0 : Int)).map (Value.int .i64)).toArray := by
    rw [h1, Nat.mul_one]
    apply Array.toList_inj.1
    have : (Value.int IntKind.i64 0).cells = #[.int .i64 0] := rfl
    rw [this, toList_madeCells_one]
    simp
  rw [e]
/-- A row of numbers in a block of our own. -/
def IntBox (W : World) (b : Nat) (es : List Int) : Prop := W.heap[b]? = some (.cells (es.map (Value.int .i64)).toArray 3)
theorem IntBox.cell {W : World} {b : Nat} {es : List Int} (h : IntBox W b es) (k : Nat) (z : Int) (hk : es[k]? = some z) : W.cell? ⟨b, k, none⟩ = some (.int .i64 z) := by
  unfold IntBox at h
  simp [World.cell?, h, hk]
theorem IntBox.frozen {W : World} {b : Nat} {es : List Int} (h : IntBox W b es) (k : Nat) : W.frozen? ⟨b, k, none⟩ = false := by
  unfold IntBox at h
  simp [World.frozen?, h]
theorem IntBox.below {W W' : World} {b : Nat} {es : List Int} (h : IntBox W b es) (hb : Below W.heap.size W W') : IntBox W' b es := (hb.block b (Array.getElem?_eq_some_iff.1 h).1).trans h
theorem IntBox.set {W : World} {b : Nat} {es : List Int} (h : IntBox W b es) (k : Nat) (z : Int) : IntBox (W.setCell ⟨b, k, none⟩ (.int .i64 z)) b (es.set k z) := by
  unfold IntBox at h ⊢
  simp [World.setCell, Array.getElem?_modify, h, List.map_set]
/-- A node with places and Kids of any size. -/
structure Gn where
  kind : Int
  style : Int
  tag : ByteArray
  anchor : ByteArray
  value : ByteArray
  st : Int
  en : Int
  hd : Int
  mr : Int
  kids : List Int
def ki (l : List Int) : List Value := l.map (Value.int .i64)
theorem ki_len (l : List Int) : (ki l).length = l.length := by simp [ki]
theorem ki_at {l : List Int} {j : Nat} {k : Int} (h : l[j]? = some k) : (ki l)[j]? = some (.int .i64 k) := by simp [ki, h]
def gnC (x : Gn) (v : Value) : List Value := [.int .i64 x.kind, .int .i64 x.style, .string x.tag, .string x.anchor, .string x.value, .int .i64 x.st, .int .i64 x.en, .int .i64 x.hd, .int .i64 x.mr, v]
def gn (x : Nd) : Gn := ⟨x.kind, x.style, strOfNums x.tag, strOfNums x.anchor, strOfNums x.value, x.st, x.en, x.hd, x.mr, x.kids.map fun (k : Nat) => (k : Int)⟩
theorem gn_kids (x : Nd) : ki (gn x).kids = kidC x.kids := by simp [ki, gn, kidC]
theorem gn_len (x : Nd) : (gn x).kids.length = x.kids.length := by simp [gn]
theorem gn_cells (x : Nd) (v : Value) : gnC (gn x) v = ndC (x, v) := rfl
def adv : Option Addr → Nat → Option Addr
  | some ⟨b, o, p⟩, m => some ⟨b, o + m, p⟩
  | none, _ => none
/-- A list of nodes of any kind in memory, looked at. -/
structure GL (W : World) (A : Option Addr) (n cap : Nat) (l : List Gn) : Prop where
  len : l.length = n
  le : n ≤ cap
  max : cap ≤ 9223372036854775807
  nil : A = none → cap = 0
  at_ : ∀ (i : Nat) (x : Gn), l[i]? = some x → ∃ g o, A = some ⟨g, o, none⟩ ∧ ∃ K c, x.kids.length ≤ c ∧ c ≤ 9223372036854775807 ∧ (K = none → c = 0) ∧ RdC W K (ki x.kids) ∧ ∀ (j : Nat) (u : Value), (gnC x (.slice K x.kids.length c))[j]? = some u → W.cell? ⟨g, o + i * 10 + j, none⟩ = some u
section
variable {W W' : World} {A : Option Addr} {n cap : Nat} {l : List Gn}
theorem GL.below (h : GL W A n cap l) (hb : Below W.heap.size W W') : GL W' A n cap l :=
  ⟨h.len, h.le, h.max, h.nil, fun i x hx => by obtain ⟨g, o, e, K, c, q1, q2, q0, q3, q4⟩ := h.at_ i x hx; exact ⟨g, o, e, K, c, q1, q2, q0, q3.below hb, fun j u hu => cell_keep hb (q4 j u hu)⟩⟩
theorem Nds.gl {B : Nat} {P : List NK} (h : Nds B W (.slice A n cap) P) (hn : P.length = n) : GL W A n cap ((lst P).map gn) := by
  have hrow := h.row
  rw [hn] at hrow
  obtain ⟨A', cap', e, h1, h2, h3⟩ := own_form hrow
  simp only [Value.slice.injEq, true_and] at e
  obtain ⟨rfl, rfl⟩ := e
  refine ⟨by rw [List.length_map, lst_len]; exact hn, h1, h2, h3, fun i x hx => ?_⟩
  rw [List.getElem?_map, Option.map_eq_some_iff] at hx
  obtain ⟨y, hy, rfl⟩ := hx
  obtain ⟨kv, hp⟩ := lst_at hy
  have hi := (List.getElem?_eq_some_iff.1 hp).1
  obtain ⟨K, c, e, k1, k2, k3⟩ := own_form (h.kid i _ hp)
  dsimp only at e
  subst e
  have hpos : 0 < P.length := by omega
  obtain ⟨g', cap', e, _⟩ := (hn ▸ h).form hpos
  rw [hn] at e
  simp only [Value.slice.injEq, true_and] at e
  obtain ⟨rfl, rfl⟩ := e
  exact ⟨g', 0, rfl, K, c, by rw [gn_len]; exact k1, k2, k3, by rw [gn_kids]; exact RdC.own (h.kid i _ hp), fun j u hu => by rw [gn_len, gn_cells] at hu; rw [Nat.zero_add]; exact (hn ▸ h).cell hp j u hu⟩
/-- From the place a to b. -/
theorem GL.cut (h : GL W A n cap l) {a b : Nat} (hab : a ≤ b) (hb : b ≤ n) : GL W (adv A (a * 10)) (b - a) (cap - a) ((l.take b).drop a) := by
  have hl := h.len
  have hle := h.le
  have hmx := h.max
  refine ⟨by rw [List.length_drop, List.length_take]; omega, by omega, by omega, fun e => ?_, fun i x hx => ?_⟩
  · have hA : A = none := by
      cases A with
      | none => rfl
      | some q => cases q; cases e
    have := h.nil hA
    omega
  rw [List.getElem?_drop, List.getElem?_take] at hx
  split at hx
  · obtain ⟨g, o, e, K, c, q1, q2, q0, q3, q4⟩ := h.at_ (a + i) x hx
    refine ⟨g, o + a * 10, by rw [e]; rfl, K, c, q1, q2, q0, q3, fun j u hu => ?_⟩
    rw [show o + a * 10 + i * 10 + j = o + (a + i) * 10 + j by omega]
    exact q4 j u hu
  · cases hx
end
theorem within_at (W : World) (A : Option Addr) (n cap : Nat) (hn : n ≤ cap) (hm : cap ≤ 9223372036854775807) (at_ : Int) :
    Calls Try.prog 40 #[.slice A n cap, .int .i64 at_] W fun e w' => e = .returned (.bool (decide (0 ≤ at_) && decide (at_ < (n : Int)))) ∧ W = w' := by
  by_cases h : 0 ≤ at_
  · have d : decide (0 ≤ at_) = true := decide_eq_true h
    go_enter Try.func40, Try.ntmps40
    go_wp2_with fail
    go_ret
    exact ⟨by simp [h], by trivial⟩
  · have d : decide (0 ≤ at_) = false := decide_eq_false h
    go_enter Try.func40, Try.ntmps40
    go_wp2_with fail
    go_ret
    exact ⟨by simp [h], by trivial⟩
def gKids (l : List Gn) (i : Nat) : List Int := match l[i]? with
  | some x => x.kids
  | none => []
theorem gKids_at {l : List Gn} {i : Nat} {x : Gn} (h : l[i]? = some x) : gKids l i = x.kids := by unfold gKids; rw [h]
/-- A node's Kids lead so far. -/
def bhE (n : Nat) (ks : List Int) (e : Nat) : Nat := match ks.getLast? with
  | none => e
  | some k => (min (max (e : Int) (k + 1)) (n : Int)).toNat
def bhGo (l : List Gn) (n : Nat) : Nat → Nat → Nat → Nat
  | 0, _, e => e
  | f + 1, i, e => if i < e then bhGo l n f (i + 1) (bhE n (gKids l i) e) else e
theorem bhGo_end {l : List Gn} {n f i : Nat} : bhGo l n f i i = i := by
  cases f with
  | zero => rfl
  | succ f => rw [bhGo, if_neg (Nat.lt_irrefl i)]
theorem bhGo_step {l : List Gn} {n i e : Nat} (h : i < e) (hn : e ≤ n) : bhGo l n (n - i) i e = bhGo l n (n - (i + 1)) (i + 1) (bhE n (gKids l i) e) := by
  rw [show n - i = (n - (i + 1)) + 1 by omega, bhGo, if_pos h]
/-- Kids that a sum does not leave. -/
def Small (l : List Gn) : Prop := ∀ x ∈ l, x.kids.length ≤ 1000000 ∧ ∀ k ∈ x.kids, -4611686018427387904 ≤ k ∧ k ≤ 4611686018427387904
set_option maxHeartbeats 8000000 in
theorem behind_at {W : World} {A : Option Addr} {n cap a : Nat} {l : List Gn} (hL : GL W A n cap l) (hS : Small l) (ha : a < n) (hn : n ≤ 1000000) :
    Calls Try.prog 42 #[.slice A n cap, .int .i64 (a : Int)] W fun e w' => e = .returned (.int .i64 (bhGo l n (n - a) a (a + 1) : Int)) ∧ W = w' := by
  have hle := hL.le
  have hmx := hL.max
  obtain ⟨g, o, rfl, hG⟩ : ∃ g o, A = some ⟨g, o, none⟩ ∧ ∀ (i : Nat) (x : Gn), l[i]? = some x → ∃ K c, x.kids.length ≤ c ∧ c ≤ 9223372036854775807 ∧ (K = none → c = 0) ∧ RdC W K (ki x.kids) ∧ ∀ (j : Nat) (u : Value), (gnC x (.slice K x.kids.length c))[j]? = some u → W.cell? ⟨g, o + i * 10 + j, none⟩ = some u := by
    obtain ⟨g, o, e, _⟩ := hL.at_ a _ (List.getElem?_eq_getElem (by rw [hL.len]; exact ha))
    refine ⟨g, o, e, fun i x hx => ?_⟩
    obtain ⟨g', o', e', h⟩ := hL.at_ i x hx
    rw [e] at e'
    injection e' with e'
    injection e' with e1 e2
    subst e1 e2
    exact h
  obtain ⟨R, hR⟩ : ∃ z, bhGo l n (n - a) a (a + 1) = z := ⟨_, rfl⟩
  rw [hR]
  obtain ⟨a1, ha1⟩ : ∃ z, a + 1 = z := ⟨_, rfl⟩
  rw [ha1] at hR
  have da1 : (a : Int) + 1 = (a1 : Int) := by omega
  have HA1 := Lib.hid ha1
  have HR := Lib.hid hR
  have HG := Lib.hid hG
  have HL := Lib.hid hL.len
  have HS := Lib.hid hS
  clear hL hG hR ha1 hS
  go_enter Try.func42, Try.ntmps42
  go_wp2_with fail
  go_loopw [5, 6] (fun u v V => ∃ (i e : Nat), i ≤ e ∧ e ≤ n ∧ u = .int .i64 (e : Int) ∧ v = .int .i64 (i : Int) ∧ W = V ∧ Hid (bhGo l n (n - i) i e = R)) (fun _ v _ => n - (intOf v).toNat)
  case atStart => exact ⟨a, a1, by have := HA1.out; omega, by have := HA1.out; omega, rfl, rfl, rfl, HR.out⟩
  case round =>
    obtain ⟨i, e, hie, hen, rfl, rfl, rfl, HQ⟩ := hrel
    by_cases hlt : i < e
    · have di : (i : Int) < (e : Int) := by omega
      have dn : (i : Int) < (n : Int) := by omega
      obtain ⟨x, hx⟩ : ∃ x, l[i]? = some x := ⟨l[i]'(by rw [HL.out]; omega), List.getElem?_eq_getElem _⟩
      obtain ⟨K, c, k1, k2, _, hrd, hc⟩ := HG.out i x hx
      have y9 := hc 9 _ rfl
      have HX := Lib.hid (gKids_at hx)
      have HSX := Lib.hid (HS.out x (List.mem_of_getElem? hx))
      obtain ⟨ks, hks⟩ : ∃ z, x.kids = z := ⟨_, rfl⟩
      rw [hks] at k1 hrd HX HSX y9
      clear hks hc hx
      obtain ⟨kl, hkl⟩ : ∃ z, ks.length = z := ⟨_, rfl⟩
      rw [hkl] at k1 y9
      have HKL := Lib.hid hkl
      clear hkl
      by_cases h0 : kl = 0
      · subst h0
        have HE : Hid (bhE n (gKids l i) e = e) := by
          rw [HX.out, List.length_eq_zero_iff.1 HKL.out]; rfl
        clear hrd
        go_wp2_with fail
        go_roundw
        case rel => exact ⟨i + 1, e, by omega, by omega, rfl, by go_num, by trivial, by have h := HQ.out; rw [bhGo_step hlt hen, HE.out] at h; exact h⟩
        case measure => simp [intOf]; omega
      · obtain ⟨q, hq⟩ : ∃ q, kl = q + 1 := ⟨kl - 1, by omega⟩
        subst hq
        obtain ⟨k, hz⟩ : ∃ z, ks[q]? = some z := ⟨ks[q]'(by rw [HKL.out]; omega), List.getElem?_eq_getElem _⟩
        obtain ⟨b1, b2⟩ := HSX.out.2 k (List.mem_of_getElem? hz)
        have hql := HSX.out.1
        rw [HKL.out] at hql
        obtain ⟨bk, ok, rfl, hkc⟩ := hrd.addr (by rw [ki_len, HKL.out]; omega)
        have ckk : W.cell? ⟨bk, ok + q, none⟩ = some (.int .i64 k) := hkc q _ (ki_at hz)
        obtain ⟨e2, he2⟩ : ∃ z : Nat, (min (max (e : Int) (k + 1)) (n : Int)).toNat = z := ⟨_, rfl⟩
        have he2' : min (max (e : Int) (k + 1)) (n : Int) = (e2 : Int) := by omega
        have HE : Hid (bhE n (gKids l i) e = e2) := by
          rw [HX.out]
          unfold bhE
          rw [List.getLast?_eq_getElem?, HKL.out, Nat.add_sub_cancel, hz]
          exact he2
        have b3 : i + 1 ≤ e2 := by omega
        have b4 : e2 ≤ n := by omega
        have d1 : ((q + 1 : Nat) : Int) - 1 = (q : Int) := by omega
        have d2 : (q : Int) < ((q + 1 : Nat) : Int) := by omega
        have d3 : (0 : Int) < ((q + 1 : Nat) : Int) := by omega
        have HE2 := Lib.hid he2'
        clear hrd hkc hz HKL HX HSX he2 he2'
        go_wp2_with fail
        go_roundw
        case rel => exact ⟨i + 1, e2, b3, b4, by have := HE2.out; first | (congr 1; omega) | (simp only [Value.int.injEq, true_and]; split <;> split <;> omega), by go_num, by trivial, by have h := HQ.out; rw [bhGo_step hlt hen, HE.out] at h; exact h⟩
        case measure => simp [intOf]; omega
    · obtain rfl : i = e := by omega
      have hq := HQ.out
      rw [bhGo_end] at hq
      subst hq
      go_wp2_with fail
      go_ret
      exact ⟨rfl, by trivial⟩
abbrev GK := Gn × Value
def gkC (p : GK) : List Value := gnC p.1 p.2
def gksC (P : List GK) : List Value := P.flatMap gkC
theorem gkC_len (p : GK) : (gkC p).length = 10 := rfl
theorem gksC_cons (p : GK) (t : List GK) : gksC (p :: t) = gkC p ++ gksC t := List.flatMap_cons
theorem gksC_app (P Q : List GK) : gksC (P ++ Q) = gksC P ++ gksC Q := List.flatMap_append
theorem gksC_len : ∀ P : List GK, (gksC P).length = P.length * 10
  | [] => rfl
  | p :: t => by rw [gksC_cons, List.length_append, gksC_len t, gkC_len, List.length_cons]; omega
theorem gksC_at : ∀ (P : List GK) (i j : Nat) (p : GK), P[i]? = some p → j < 10 → (gksC P)[i * 10 + j]? = (gkC p)[j]?
  | [], i, j, p, h, _ => by simp at h
  | q :: t, 0, j, p, h, hj => by
    simp at h; subst h
    rw [gksC_cons, List.getElem?_append_left (by rw [gkC_len]; omega)]; simp
  | q :: t, i + 1, j, p, h, hj => by
    simp at h
    rw [gksC_cons, List.getElem?_append_right (by rw [gkC_len]; omega), gkC_len, show (i + 1) * 10 + j - 10 = i * 10 + j by omega]
    exact gksC_at t i j p h hj
theorem gksC_set : ∀ (P : List GK) (i j : Nat) (p p' : GK) (u : Value), P[i]? = some p → j < 10 → gkC p' = (gkC p).set j u → (gksC P).set (i * 10 + j) u = gksC (P.set i p')
  | [], i, j, p, p', u, h, _, _ => by simp at h
  | q :: t, 0, j, p, p', u, h, hj, hp => by
    simp at h; subst h
    rw [gksC_cons, List.set_append_left _ _ (by rw [gkC_len]; omega), List.set_cons_zero, gksC_cons, hp]; simp
  | q :: t, i + 1, j, p, p', u, h, hj, hp => by
    simp at h
    rw [gksC_cons, List.set_append_right _ _ (by rw [gkC_len]; omega), gkC_len, show (i + 1) * 10 + j - 10 = i * 10 + j by omega, gksC_set t i j p p' u h hj hp, List.set_cons_succ, gksC_cons]
theorem gset_look {P : List GK} {i q : Nat} {p p' y : GK} (hp : P[i]? = some p) (hy : (P.set i p')[q]? = some y) : (q = i ∧ y = p') ∨ (q ≠ i ∧ P[q]? = some y) := by
  have hi := (List.getElem?_eq_some_iff.1 hp).1
  by_cases hq : i = q
  · subst hq
    rw [List.getElem?_set_self hi] at hy
    injection hy with hy
    exact .inl ⟨rfl, hy.symm⟩
  · rw [List.getElem?_set_ne hq] at hy
    exact .inr ⟨fun e => hq e.symm, hy⟩
/-- The nodes' row, and each node's Kids, all in memory of our own, each in a block of its own. -/
structure GNds (B : Nat) (W : World) (v : Value) (P : List GK) : Prop where
  row : W.ownsRow B 41 10 v P.length (gksC P)
  kid : ∀ (i : Nat) (p : GK), P[i]? = some p → W.ownsRow B 3 1 p.2 p.1.kids.length (ki p.1.kids)
  apart : ∀ (i j : Nat) (p q : GK) (k : Nat), P[i]? = some p → P[j]? = some q → i ≠ j → p.2.ownBlock = some k → q.2.ownBlock ≠ some k
  off : ∀ (i : Nat) (p : GK) (k : Nat), P[i]? = some p → p.2.ownBlock = some k → v.ownBlock ≠ some k
def glst (P : List GK) : List Gn := P.map Prod.fst
theorem GNds.below {B : Nat} {W W' : World} {v : Value} {P : List GK} (h : GNds B W v P) (hb : Below W.heap.size W W') : GNds B W' v P :=
  ⟨own_below h.row hb, fun i p hp => own_below (h.kid i p hp) hb, h.apart, h.off⟩
theorem GNds.gl {B : Nat} {W : World} {n cap : Nat} {A : Option Addr} {P : List GK} (h : GNds B W (.slice A n cap) P) (hn : P.length = n) : GL W A n cap (glst P) := by
  have hrow := h.row
  rw [hn] at hrow
  rcases hrow.2 with ⟨e, h0⟩ | ⟨g, cap', cur, e, _, _, h1, h2, _⟩
  · simp only [Value.slice.injEq] at e
    obtain ⟨rfl, _, rfl⟩ := e
    have hP : P = [] := List.eq_nil_of_length_eq_zero (by omega)
    subst hP
    exact ⟨by simp [glst]; exact hn, by omega, by omega, fun _ => rfl, fun i x hx => by simp [glst] at hx⟩
  · simp only [Value.slice.injEq, true_and] at e
    obtain ⟨rfl, rfl⟩ := e
    refine ⟨by simp [glst]; exact hn, h1, by unfold maxLen at h2; omega, fun e => by (cases e), fun i x hx => ?_⟩
    simp only [glst, List.getElem?_map, Option.map_eq_some_iff] at hx
    obtain ⟨⟨y, kv⟩, hp, rfl⟩ := hx
    have hi := (List.getElem?_eq_some_iff.1 hp).1
    have hk := h.kid i _ hp
    obtain ⟨K, c, e, k1, k2, k3⟩ := own_form hk
    dsimp only at e hk k1
    subst e
    refine ⟨g, 0, rfl, K, c, k1, k2, k3, RdC.own hk, fun j u hu => ?_⟩
    have hj : j < 10 := by have := (List.getElem?_eq_some_iff.1 hu).1; exact this
    rw [Nat.zero_add, hrow.cellAt _ (by omega), gksC_at P i j _ hp hj]
    exact hu
def Gn.mapK (f : Int → Int) (x : Gn) : Gn := { x with kids := x.kids.map f }
/-- A copy whose first i nodes are done. -/
structure Cpy (B : Nat) (V : World) (v : Value) (l : List GK) (f : Int → Int) (i : Nat) (P : List GK) : Prop where
  len : P.length = l.length
  row : V.ownsRow B 41 10 v l.length (gksC P)
  done : ∀ (q : Nat) (p : GK), q < i → P[q]? = some p → V.ownsRow B 3 1 p.2 p.1.kids.length (ki p.1.kids)
  is : ∀ (q : Nat) (p : GK), q < i → P[q]? = some p → ∃ x, l[q]? = some x ∧ p.1 = x.1.mapK f
  rest : ∀ q, i ≤ q → P[q]? = l[q]?
  apart : ∀ (q r : Nat) (p y : GK) (k : Nat), q < i → r < i → P[q]? = some p → P[r]? = some y → q ≠ r → p.2.ownBlock = some k → y.2.ownBlock ≠ some k
  off : ∀ (q : Nat) (p : GK) (k : Nat), q < i → P[q]? = some p → p.2.ownBlock = some k → v.ownBlock ≠ some k
section
variable {B : Nat} {V V2 : World} {v : Value} {l P : List GK} {f : Int → Int} {i : Nat}
theorem Cpy.start (h : V.ownsRow B 41 10 v l.length (gksC l)) : Cpy B V v l f 0 l :=
  ⟨rfl, h, fun q p hq => by omega, fun q p hq => by omega, fun _ _ => rfl, fun q r p y k hq => by omega, fun q p k hq => by omega⟩
theorem Cpy.below (h : Cpy B V v l f i P) (hb : Below V.heap.size V V2) : Cpy B V2 v l f i P :=
  ⟨h.len, own_below h.row hb, fun q p hq hp => own_below (h.done q p hq hp) hb, h.is, h.rest, h.apart, h.off⟩
theorem Cpy.step {g cap : Nat} (h : Cpy B V (.slice (some ⟨g, 0, none⟩) l.length cap) l f i P) {x : GK} (hx : l[i]? = some x) {kv : Value} (hb : Below V.heap.size V V2) (hB : B ≤ V.heap.size)
    (hk : V2.ownsRow V.heap.size 3 1 kv x.1.kids.length (ki (x.1.kids.map f))) :
    Cpy B (V2.setCell ⟨g, i * 10 + 9, none⟩ kv) (.slice (some ⟨g, 0, none⟩) l.length cap) l f (i + 1) (P.set i (x.1.mapK f, kv)) := by
  have hPi : P[i]? = some x := by rw [h.rest i (Nat.le_refl _)]; exact hx
  have h2 := h.below hb
  have hgs := grown_store V2 g (i * 10 + 9) kv
  have hgV : g < V.heap.size := own_lt h.row g (by simp [Value.ownBlock])
  have kvB : ∀ k, kv.ownBlock = some k → V.heap.size ≤ k := own_base hk
  have kid_lt : ∀ (q : Nat) (p : GK) (k : Nat), q < i → P[q]? = some p → p.2.ownBlock = some k → k < V.heap.size := fun q p k hq hp hk => own_lt (h.done q p hq hp) k hk
  refine ⟨by rw [List.length_set]; exact h.len, ?_, ?_, ?_, ?_, ?_, ?_⟩
  · rw [← gksC_set P i 9 x (x.1.mapK f, kv) kv hPi (by omega) rfl]
    exact (h2.row.stored _ _).1
  · intro q p hq hp
    rcases gset_look hPi hp with ⟨rfl, rfl⟩ | ⟨hne, hp⟩
    · show World.ownsRow _ _ _ _ kv (x.1.kids.map f).length (ki (x.1.kids.map f))
      rw [List.length_map]
      have hk' : V2.ownsRow B 3 1 kv x.1.kids.length (ki (x.1.kids.map f)) := by
        refine ⟨hk.1, ?_⟩
        rcases hk.2 with h | ⟨g', cap', cur, a1, a2, a3⟩
        · exact .inl h
        · exact .inr ⟨g', cap', cur, a1, Nat.le_trans hB a2, a3⟩
      exact own_kept hk' hgs (fun k e e2 => by injection e with e; subst e; have := kvB _ e2; omega)
    · exact own_kept (h2.done q p (by omega) hp) hgs (fun k e e2 => by injection e with e; subst e; exact h.off q p _ (by omega) hp e2 rfl)
  · intro q p hq hp
    rcases gset_look hPi hp with ⟨rfl, rfl⟩ | ⟨hne, hp⟩
    · exact ⟨x, hx, rfl⟩
    · exact h.is q p (by omega) hp
  · intro q hq
    rw [List.getElem?_set_ne (by omega)]
    exact h.rest q (by omega)
  · intro q r p y k hq hr hp hy hne hk2
    rcases gset_look hPi hp with ⟨rfl, rfl⟩ | ⟨hn1, hp⟩
    · rcases gset_look hPi hy with ⟨e1, _⟩ | ⟨hn2, hy⟩
      · exact absurd e1.symm hne
      · intro e
        have := kid_lt r y k (by omega) hy e
        have := kvB k hk2
        omega
    · rcases gset_look hPi hy with ⟨e1, rfl⟩ | ⟨hn2, hy⟩
      · intro e
        have := kid_lt q p k (by omega) hp hk2
        have := kvB k e
        omega
      · exact h.apart q r p y k (by omega) (by omega) hp hy hne hk2
  · intro q p k hq hp hk2
    rcases gset_look hPi hp with ⟨rfl, rfl⟩ | ⟨hn1, hp⟩
    · intro e
      simp only [Value.ownBlock, Option.some.injEq] at e
      have := kvB k hk2
      omega
    · exact h.off q p k (by omega) hp hk2
theorem Cpy.end_ {n : Nat} (h : Cpy B V v l f n P) (hn : l.length = n) : GNds B V v P ∧ glst P = (glst l).map (Gn.mapK f) := by
  subst hn
  have lt : ∀ {q : Nat} {p : GK}, P[q]? = some p → q < l.length := fun hp => by rw [← h.len]; exact (List.getElem?_eq_some_iff.1 hp).1
  refine ⟨⟨by rw [h.len]; exact h.row, fun q p hp => h.done q p (lt hp) hp, fun q r p y k hp hy => h.apart q r p y k (lt hp) (lt hy) hp hy, fun q p k hp => h.off q p k (lt hp) hp⟩, ?_⟩
  apply List.ext_getElem?
  intro q
  simp only [glst, List.getElem?_map]
  cases hp : P[q]? with
  | none =>
    have h1 := List.getElem?_eq_none_iff.1 hp
    rw [List.getElem?_eq_none_iff.2 (by rw [h.len] at h1; exact h1)]
    rfl
  | some p =>
    obtain ⟨x, hx, e⟩ := h.is q p (lt hp) hp
    rw [hx]
    simp [e]
end
def vBadF (kd : Int) (kl : Nat) : Bool := (decide (0 < kl) && !(kd == 2 || kd == 3)) || (kd == 3 && kl % 2 != 0)
def vEndG (n : Nat) (es : List Int) : List Int → Int → Option Int
  | [], e => some e
  | k :: ks, e => if k = e ∧ k < (n : Int) then vEndG n es ks (es.getD k.toNat 0) else none
def vEndF (n : Nat) (es : List Int) (kd : Int) (ks : List Int) (i : Nat) : Option Int := if vBadF kd ks.length = true then none else vEndG n es ks ((i + 1 : Nat) : Int)
def vEndR : Option Int → Ending
  | some v => .returned (.tuple #[.int .i64 v, .bool true])
  | none => .returned (.tuple #[.int .i64 0, .bool false])
theorem vEndG_step {n : Nat} {es ks : List Int} {j : Nat} {k e : Int} (h : ks[j]? = some k) : vEndG n es (ks.drop j) e = if k = e ∧ k < (n : Int) then vEndG n es (ks.drop (j + 1)) (es.getD k.toNat 0) else none := by
  have hj := (List.getElem?_eq_some_iff.1 h).1
  rw [List.drop_eq_getElem_cons hj, vEndG]
  have : ks[j] = k := by rw [List.getElem?_eq_getElem hj] at h; injection h
  rw [this]
set_option maxHeartbeats 8000000 in
theorem gendOf_at {W : World} {A : Option Addr} {n cap i b cap2 : Nat} {l : List Gn} {x : Gn} {es : List Int} (hL : GL W A n cap l) (hx : l[i]? = some x) (hi : i < n) (hn : n ≤ 1000000) (hkn : x.kids.length ≤ 1000000) (hc2 : n ≤ cap2) (hm2 : cap2 ≤ 9223372036854775807)
    (hbx : IntBox W b es) (hel : es.length = n) (hpos : ∀ v ∈ es, 0 ≤ v) :
    Calls Try.prog 54 #[.slice A n cap, .int .i64 (i : Int), .slice (some ⟨b, 0, none⟩) n cap2] W fun e w' => e = vEndR (vEndF n es x.kind x.kids i) ∧ Below W.heap.size W w' := by
  have hle := hL.le
  have hmx := hL.max
  obtain ⟨g, o, rfl, K, c, k1, k2, _, hrd, hc⟩ := hL.at_ i x hx
  obtain ⟨kl, hkl⟩ : ∃ z, x.kids.length = z := ⟨_, rfl⟩
  rw [hkl] at hc k1 hkn
  obtain ⟨kd, hkd⟩ : ∃ z, x.kind = z := ⟨_, rfl⟩
  obtain ⟨ks, hks⟩ : ∃ z, x.kids = z := ⟨_, rfl⟩
  rw [hks] at hrd hkl
  obtain ⟨r, hr⟩ : ∃ z, vEndF n es kd ks i = z := ⟨_, rfl⟩
  rw [hkd, hks, hr]
  unfold vEndF at hr
  rw [hkl] at hr
  have y0 := hc 0 _ rfl
  have y1 := hc 1 _ rfl
  have y2 := hc 2 _ rfl
  have y3 := hc 3 _ rfl
  have y4 := hc 4 _ rfl
  have y5 := hc 5 _ rfl
  have y6 := hc 6 _ rfl
  have y7 := hc 7 _ rfl
  have y8 := hc 8 _ rfl
  have y9 := hc 9 _ rfl
  rw [hkd] at y0
  simp only [Nat.add_zero] at y0
  have di : (i : Int) < (n : Int) := by omega
  have HR := Lib.hid (And.intro hr (And.intro hrd hkl))
  have HE := Lib.hid (And.intro hbx (And.intro hel hpos))
  clear hL hx hr hrd hc hkd hks hkl hbx hel hpos
  go_enter Try.func54, Try.ntmps54
  go_upto_region 2 with fail
  obtain ⟨V1, hV1⟩ : ∃ z, W.alloc (.cells #[.int .i64 kd, .int .i64 x.style, .string x.tag, .string x.anchor, .string x.value, .int .i64 x.st, .int .i64 x.en, .int .i64 x.hd, .int .i64 x.mr, .slice K kl c] 41) = z := ⟨_, rfl⟩
  obtain ⟨gx, hgx⟩ : ∃ z, W.heap.size = z := ⟨_, rfl⟩
  have hb1 : Below W.heap.size W V1 := by rw [← hV1]; exact (Below.refl _ _).alloc (Nat.le_refl _) _
  have xb : ∀ (j : Nat) (u : Value), #[Value.int .i64 kd, .int .i64 x.style, .string x.tag, .string x.anchor, .string x.value, .int .i64 x.st, .int .i64 x.en, .int .i64 x.hd, .int .i64 x.mr, .slice K kl c][j]? = some u → V1.cell? ⟨gx, j, none⟩ = some u := fun j u hu => by rw [← hV1, ← hgx, World.cell?_alloc_mark]; exact hu
  rw [hV1, hgx]
  have HB1 := Lib.hid hb1
  clear hV1 hgx hb1 y0 y1 y2 y3 y4 y5 y6 y7 y8 y9
  have z0 := xb 0 _ rfl
  have z1 := xb 1 _ rfl
  have z2 := xb 2 _ rfl
  have z3 := xb 3 _ rfl
  have z4 := xb 4 _ rfl
  have z5 := xb 5 _ rfl
  have z6 := xb 6 _ rfl
  have z7 := xb 7 _ rfl
  have z8 := xb 8 _ rfl
  have z9 := xb 9 _ rfl
  clear xb
  go_cut [35] from 15 to 35 (fun v U => v = .bool (vBadF kd kl) ∧ Hid (Below V1.heap.size V1 U))
  case first =>
    by_cases h0 : kl = 0
    · have d0 : ¬ (0 : Int) < (kl : Int) := by omega
      subst h0
      simp only [show ((0 : Nat) : Int) = 0 from rfl] at d0 z9 ⊢
      have hb : vBadF kd 0 = false := by unfold vBadF; simp
      by_cases hk3 : kd = 3
      · subst hk3
        go_wp2_with fail
        go_meet
        exact ⟨by rw [hb], Below.refl _ _⟩
      · have e3 : (kd == 3) = false := beq_eq_false_iff_ne.2 hk3
        go_wp2_with fail
        go_meet
        exact ⟨by rw [hb], Below.refl _ _⟩
    · have d0 : (0 : Int) < (kl : Int) := by omega
      have d0' : 0 < kl := by omega
      go_wp2_with fail
      refine (coll_at V1 kd _ _ _ _ _ _ _ _ _).mono ?_
      rintro e U ⟨rfl, hbU⟩
      have HBU := Lib.hid hbU
      have z0' := cell_keep hbU z0
      have z9' := cell_keep hbU z9
      clear hbU z0 z1 z2 z3 z4 z5 z6 z7 z8 z9
      by_cases hk3 : kd = 3
      · subst hk3
        rw [show (((3 : Int) == 2) || ((3 : Int) == 3)) = true from rfl]
        by_cases hev : kl % 2 = 0
        · have hb : vBadF 3 kl = false := by unfold vBadF; simp [hev]
          have hev2 : Int.tmod (kl : Int) 2 = 0 := by rw [Int.tmod_eq_emod_of_nonneg (by omega)]; omega
          have HBF := Lib.hid hb
          clear hb
          go_wp2_with fail
          go_meet
          exact ⟨by rw [HBF.out], HBU.out⟩
        · have hb : vBadF 3 kl = true := by unfold vBadF; simp; omega
          have hev2 : Int.tmod (kl : Int) 2 = 1 := by rw [Int.tmod_eq_emod_of_nonneg (by omega)]; omega
          have HBF := Lib.hid hb
          clear hb
          go_wp2_with fail
          go_meet
          exact ⟨by rw [HBF.out], HBU.out⟩
      · have e3 : (kd == 3) = false := beq_eq_false_iff_ne.2 hk3
        by_cases hk2 : kd = 2
        · subst hk2
          have hb : vBadF 2 kl = false := by unfold vBadF; simp
          rw [show (((2 : Int) == 2) || ((2 : Int) == 3)) = true from rfl]
          have HBF := Lib.hid hb
          clear hb
          go_wp2_with fail
          go_meet
          exact ⟨by rw [HBF.out], HBU.out⟩
        · have e2 : (kd == 2) = false := beq_eq_false_iff_ne.2 hk2
          have hb : vBadF kd kl = true := by unfold vBadF; rw [e2, e3]; simp [d0']
          rw [e2, e3, show (false || false) = false from rfl]
          have HBF := Lib.hid hb
          clear hb
          go_wp2_with fail
          go_meet
          exact ⟨by rw [HBF.out], HBU.out⟩
  case rest =>
    obtain ⟨rfl, HC⟩ := hcut
    obtain ⟨V2, hV2⟩ : ∃ z, z = wc := ⟨_, rfl⟩
    subst hV2
    have z9' := cell_keep HC.out z9
    have HB2 := Lib.hid (below_step HB1.out HC.out)
    clear HC HB1 z0 z1 z2 z3 z4 z5 z6 z7 z8 z9
    cases hb : vBadF kd kl with
    | true =>
      have hr : r = none := by have := HR.out.1; rw [if_pos hb] at this; exact this.symm
      subst hr
      go_wp2_with fail
      go_ret2
      exact ⟨rfl, HB2.out⟩
    | false =>
      have hr : vEndG n es ks ((i + 1 : Nat) : Int) = r := by have := HR.out.1; rw [if_neg (by rw [hb]; decide)] at this; exact this
      obtain ⟨i1, hi1⟩ : ∃ z, i + 1 = z := ⟨_, rfl⟩
      rw [hi1] at hr
      have hi1z : (i : Int) + 1 = (i1 : Int) := by omega
      have HRR := Lib.hid hr
      clear hi1 hr
      go_wp2_with fail
      go_loopw [6, 41] (fun s q U => ∃ (j : Nat) (a : Int), j ≤ kl ∧ s = .int .i64 a ∧ q = .int .i64 (j : Int) ∧ U = V2 ∧ 0 ≤ a ∧ Hid (vEndG n es (ks.drop j) a = r)) (fun _ q _ => kl - (intOf q).toNat)
      case atStart => exact ⟨0, _, Nat.zero_le _, rfl, rfl, rfl, by omega, HRR.out⟩
      case round =>
        obtain ⟨j, a, hj, rfl, rfl, rfl, ha0, HQ⟩ := hrel
        by_cases hlt : j < kl
        · have dj : (j : Int) < (kl : Int) := by omega
          have hkl := HR.out.2.2
          obtain ⟨k, hz⟩ : ∃ z, ks[j]? = some z := ⟨ks[j]'(by rw [hkl]; exact hlt), List.getElem?_eq_getElem _⟩
          have hq := HQ.out
          rw [vEndG_step hz] at hq
          obtain ⟨bk, ok, rfl, hkc⟩ := HR.out.2.1.addr (by rw [ki_len, hkl]; omega)
          have ckk : wr.cell? ⟨bk, ok + j, none⟩ = some (.int .i64 k) := cell_keep HB2.out (hkc j _ (ki_at hz))
          clear hz hkc
          by_cases hka : k = a
          · subst hka
            by_cases hkn2 : k < (n : Int)
            · obtain ⟨k0, rfl⟩ : ∃ k0 : Nat, k = (k0 : Int) := ⟨k.toNat, by omega⟩
              rw [if_pos ⟨rfl, hkn2⟩, Int.toNat_natCast] at hq
              obtain ⟨v, hv⟩ : ∃ v, es[k0]? = some v := ⟨es[k0]'(by rw [HE.out.2.1]; omega), List.getElem?_eq_getElem _⟩
              have hv0 := HE.out.2.2 v (List.mem_of_getElem? hv)
              have cek : wr.cell? ⟨b, k0, none⟩ = some (.int .i64 v) := cell_keep HB2.out (HE.out.1.cell k0 _ hv)
              rw [List.getD_eq_getElem?_getD, hv, Option.getD_some] at hq
              have dk' : ¬ (n : Int) ≤ (k0 : Int) := by omega
              have dk'' : decide (n ≤ k0) = false := decide_eq_false (by omega)
              have HQ3 := Lib.hid hq
              clear hv hq HQ
              go_wp2_with fail
              go_roundw
              case rel => exact ⟨j + 1, v, by omega, rfl, by go_num, by trivial, hv0, HQ3.out⟩
              case measure => simp [intOf]; omega
            · rw [if_neg (fun e => hkn2 e.2)] at hq
              subst hq
              have dk' : (n : Int) ≤ k := by omega
              have dk3 : decide ((n : Int) ≤ k) = true := decide_eq_true dk'
              clear HQ
              go_wp2_with fail
              go_ret2
              exact ⟨rfl, HB2.out⟩
          · rw [if_neg (fun e => hka e.1)] at hq
            subst hq
            have dk' : (k == a) = false := beq_eq_false_iff_ne.2 hka
            clear HQ
            go_wp2_with fail
            go_ret2
            exact ⟨rfl, HB2.out⟩
        · obtain rfl : j = kl := by omega
          have hq := HQ.out
          rw [List.drop_eq_nil_of_le (by rw [HR.out.2.2]; exact Nat.le_refl _)] at hq
          have hq' : some a = r := hq
          subst hq'
          go_wp2_with fail
          go_ret2
          exact ⟨rfl, HB2.out⟩
def vGo (l : List Gn) : Nat → List Int → Option (List Int)
  | 0, es => some es
  | t + 1, es => match l[t]? with
    | some x => match vEndF l.length es x.kind x.kids t with
      | some v => vGo l t (es.set t v)
      | none => none
    | none => none
def vLast (n : Nat) : Option (List Int) → Bool
  | some es => decide (0 < n) && (es.getD 0 0 == (n : Int))
  | none => false
def tValidF (l : List Gn) : Bool := vLast l.length (vGo l l.length (List.replicate l.length 0))
theorem vEndG_pos {n : Nat} {es : List Int} (hp : ∀ v ∈ es, 0 ≤ v) : ∀ (ks : List Int) (e v : Int), 0 ≤ e → vEndG n es ks e = some v → 0 ≤ v
  | [], e, v, he, h => by injection h with h; omega
  | k :: ks, e, v, he, h => by
    rw [vEndG] at h
    split at h
    · refine vEndG_pos hp ks _ v ?_ h
      rw [List.getD_eq_getElem?_getD]
      cases hx : es[k.toNat]? with
      | none => exact Int.le_refl _
      | some y => exact hp y (List.mem_of_getElem? hx)
    · cases h
set_option maxHeartbeats 8000000 in
theorem gvalid_at {W : World} {A : Option Addr} {n cap : Nat} {l : List Gn} (hL : GL W A n cap l) (hS : ∀ x ∈ l, x.kids.length ≤ 1000000) (hn : n ≤ 1000000) :
    Calls Try.prog 23 #[.slice A n cap] W fun e w' => e = .returned (.bool (tValidF l)) ∧ Below W.heap.size W w' := by
  have hle := hL.le
  have hmx := hL.max
  obtain ⟨W1, hW1⟩ : ∃ z, W.alloc (.cells ((List.replicate n (0 : Int)).map (Value.int .i64)).toArray 3) = z := ⟨_, rfl⟩
  obtain ⟨b, hb⟩ : ∃ z, W.heap.size = z := ⟨_, rfl⟩
  have hmk := run_make_ints n hn W
  rw [hW1, hb] at hmk
  have hbx : IntBox W1 b (List.replicate n 0) := by unfold IntBox; rw [← hW1, ← hb]; exact heap_alloc_new W _
  have hb1 : Below W.heap.size W W1 := by rw [← hW1]; exact (Below.refl _ _).alloc (Nat.le_refl _) _
  obtain ⟨r, hr⟩ : ∃ z, tValidF l = z := ⟨_, rfl⟩
  rw [hr]
  unfold tValidF at hr
  rw [hL.len] at hr
  have HL := Lib.hid hL
  have HS := Lib.hid hS
  have HR := Lib.hid hr
  have HBX := Lib.hid hbx
  have HB1 := Lib.hid hb1
  have HB := Lib.hid hb
  clear hL hS hbx hb1 hb hW1 hr
  go_enter Try.func23, Try.ntmps23
  go_wp2_with fail
  clear hmk
  go_loopw [4] (fun i V => ∃ (t : Nat) (es : List Int), t ≤ n ∧ i = .int .i64 ((t : Int) - 1) ∧ Hid (IntBox V b es ∧ es.length = n ∧ (∀ v ∈ es, 0 ≤ v) ∧ vLast n (vGo l t es) = r ∧ Below W.heap.size W V)) (fun i _ => (intOf i + 1).toNat)
  case atStart => exact ⟨n, _, Nat.le_refl _, rfl, HBX.out, by simp, fun v hv => by rw [(List.mem_replicate.1 hv).2]; exact Int.le_refl _, HR.out, HB1.out⟩
  case round =>
    obtain ⟨t, es, ht, rfl, HQ⟩ := hrel
    obtain ⟨V, hV⟩ : ∃ x, x = wr := ⟨_, rfl⟩
    subst hV
    cases t with
    | zero =>
      simp only [show ((0 : Nat) : Int) - 1 = -1 from rfl]
      have hq : vLast n (some es) = r := HQ.out.2.2.2.1
      have HBV := Lib.hid HQ.out.2.2.2.2
      by_cases h0 : n = 0
      · subst h0
        have hr : r = false := by rw [← hq]; rfl
        subst hr
        clear HQ hq
        go_wp2_with fail
        go_ret
        exact ⟨rfl, HBV.out⟩
      · have d0 : (0 : Int) < (n : Int) := by omega
        have d1 : 0 < n := by omega
        obtain ⟨v, hv⟩ : ∃ v, es[0]? = some v := ⟨es[0]'(by rw [HQ.out.2.1]; omega), List.getElem?_eq_getElem _⟩
        have c0 : V.cell? ⟨b, 0, none⟩ = some (.int .i64 v) := HQ.out.1.cell 0 _ hv
        have hr : (v == (n : Int)) = r := by
          rw [← hq]
          show (v == (n : Int)) = (decide (0 < n) && es.getD 0 0 == (n : Int))
          rw [List.getD_eq_getElem?_getD, hv, Option.getD_some, decide_eq_true d1, Bool.true_and]
        have HRR := Lib.hid hr
        clear HQ hq hv hr
        go_wp2_with fail
        go_ret
        exact ⟨by rw [← HRR.out]; rfl, HBV.out⟩
    | succ t =>
      rw [show ((t + 1 : Nat) : Int) - 1 = (t : Int) by omega]
      obtain ⟨x, hx⟩ : ∃ x, l[t]? = some x := ⟨l[t]'(by rw [HL.out.len]; omega), List.getElem?_eq_getElem _⟩
      have hq := HQ.out.2.2.2.1
      rw [vGo, hx] at hq
      simp only [HL.out.len] at hq
      have C := Lib.hid (gendOf_at (cap2 := n) (HL.out.below HQ.out.2.2.2.2) hx (show t < n by omega) hn (HS.out x (List.mem_of_getElem? hx)) (Nat.le_refl _) (by omega) HQ.out.1 HQ.out.2.1 HQ.out.2.2.1)
      obtain ⟨kd, hkd⟩ : ∃ z, x.kind = z := ⟨_, rfl⟩
      obtain ⟨ks, hks⟩ : ∃ z, x.kids = z := ⟨_, rfl⟩
      rw [hkd, hks] at hq C
      have hpos : ∀ v, vEndF n es kd ks t = some v → 0 ≤ v := by
        intro v hv
        unfold vEndF at hv
        split at hv
        · cases hv
        · exact vEndG_pos HQ.out.2.2.1 _ _ v (by omega) hv
      have dt : (t : Int) < (n : Int) := by omega
      have dt0 : (0 : Int) ≤ (t : Int) := by omega
      go_wp2_with fail
      refine C.out.mono ?_
      clear C
      rintro e V1 ⟨rfl, hbv⟩
      cases hE : vEndF n es kd ks t with
      | none =>
        rw [hE] at hq
        have hr : r = false := hq.symm
        subst hr
        have HB3 := Lib.hid (below_step HQ.out.2.2.2.2 hbv)
        clear hq hbv HQ
        simp only [vEndR]
        go_wp2_with fail
        go_ret
        exact ⟨rfl, HB3.out⟩
      | some v =>
        rw [hE] at hq
        have hv0 := hpos v hE
        have hbx1 := HQ.out.1.below hbv
        have hts : t < es.length := by rw [HQ.out.2.1]; omega
        have ct := hbx1.cell t _ (List.getElem?_eq_getElem hts)
        have ft := hbx1.frozen t
        have hwb : W.heap.size ≤ b := by rw [HB.out]; exact Nat.le_refl _
        have HQ2 : Hid (IntBox (V1.setCell ⟨b, t, none⟩ (.int .i64 v)) b (es.set t v) ∧ (es.set t v).length = n ∧ (∀ u ∈ es.set t v, 0 ≤ u) ∧ vLast n (vGo l t (es.set t v)) = r ∧ Below W.heap.size W (V1.setCell ⟨b, t, none⟩ (.int .i64 v))) := by
          refine ⟨hbx1.set t _, by rw [List.length_set]; exact HQ.out.2.1, fun u hu => ?_, hq, (below_step HQ.out.2.2.2.2 hbv).setCell (p := ⟨b, t, none⟩) hwb _⟩
          rcases List.mem_or_eq_of_mem_set hu with hu | rfl
          · exact HQ.out.2.2.1 u hu
          · exact hv0
        simp only [vEndR]
        clear hbv hbx1 HQ hwb hq
        go_wp2_with fail
        go_roundw
        case rel =>
          first
          | exact ⟨t, _, by omega, rfl, HQ2.out⟩
          | (repeat apply Exists.intro
             exact ⟨⟨t, _, by omega, rfl, HQ2.out⟩, rfl⟩)
        case measure => first | (simp [intOf]; done) | (simp [intOf]; omega)
theorem planIn_in {w W : World} {A1 A2 : Option Addr} {n1 c1 n2 c2 : Nat} (h : PlanIn w A1 n1 c1 A2 n2 c2) (hb : Below w.heap.size w W) : PlanIn W A1 n1 c1 A2 n2 c2 := by
  refine ⟨fun h0 => ?_, fun h0 => ?_, h.le1, h.max1, h.le2, h.max2⟩
  · obtain ⟨b, off, e, hk⟩ := h.num h0
    exact ⟨b, off, e, fun k hk' => by obtain ⟨z, hz, hc⟩ := hk k hk'; exact ⟨z, cell_keep hb hz, hc⟩⟩
  · obtain ⟨b, off, e, hk⟩ := h.txt h0
    exact ⟨b, off, e, fun k hk' => by obtain ⟨z, hz, hc⟩ := hk k hk'; exact ⟨z, cell_keep hb hz, hc⟩⟩
/-- A list that is a tree of a moderate size. -/
structure TreeOk (l : List Nd) : Prop where
  tree : Trd (lkp 0 l) 64 0 l.length
  pos : 0 < l.length
  len : l.length ≤ 65537
  kids : ∀ x ∈ l, x.kids.length ≤ 65537
theorem Trd.up {f : Nat → Option Nd} : ∀ {d i e : Nat}, Trd f d i e → Trd f (d + 1) i e
  | 0, i, e, ⟨x, h1, h2, h3⟩ => ⟨x, h1, .inl ⟨h2, h3⟩⟩
  | d + 1, i, e, ⟨x, h1, h⟩ => by
    refine ⟨x, h1, ?_⟩
    rcases h with h | ⟨h2, h3⟩
    · exact .inl h
    · exact .inr ⟨h2, h3.imp fun k e g => Trd.up g⟩
theorem parse_tree {b : List Int} {l : List Nd} (h : inParse b true = .ok l) : TreeOk l := by
  unfold inParse at h
  split at h
  · rename_i ht
    have hlen : b.length ≤ 65536 := by
      unfold inText at ht
      simp only [Bool.and_eq_true, beq_iff_eq] at ht
      exact rchk_y b ht.1
    cases hn : inNode 64 b true 0 0 with
    | error e => rw [hn] at h; cases h
    | ok y =>
      obtain ⟨l', n⟩ := y
      rw [hn] at h
      dsimp only at h
      split at h
      · cases h
      · simp only [Except.ok.injEq] at h
        subst h
        have hz := node_size b 64 true 0 0 _ _ (Nat.zero_le _) hn
        have hk := node_lens b 64 true 0 0 _ _ hn
        have h1 := hz.2.1
        have h2 := hz.2.2.2.1
        have h3 := hz.2.2.1
        have ht := node_tr b 64 true 0 0 _ _ hn
        rw [Nat.zero_add] at ht
        exact ⟨ht, by omega, by omega, fun x hx => by have := hk x hx; omega⟩
  · cases h
def oneX : Nd := ⟨1, 0, [33, 33, 115, 116, 114], [], [120], 0, 1, 0, 0, []⟩
theorem oneX_tree : TreeOk [oneX] := ⟨⟨oneX, rfl, .inl ⟨rfl, rfl⟩⟩, by simp, by simp, fun x hx => by simp only [List.mem_singleton] at hx; subst hx; simp [oneX]⟩
def TreeP (W : World) (r : Except Int (List Nd)) (e : Ending) (W' : World) : Prop :=
  match r with
  | .error q => e = .returned (.slice none 0 0) ∧ Below W.heap.size W W'
  | .ok l => ∃ v P, e = .returned v ∧ Nds W.heap.size W' v P ∧ lst P = l ∧ Below W.heap.size W W'
theorem tree_at (W : World) (u : ByteArray) (hu : u.size ≤ 1000000) (r : Except Int (List Nd)) (hr : inParse (byt u) true = r) :
    Calls Try.prog 37 #[.string u, .bool true] W (TreeP W r) := by
  have C := Lib.hid (rparse_at W u hu true r hr)
  clear hr
  go_enter Try.func37, Try.ntmps37
  go_wp2_with fail
  refine C.out.mono ?_
  clear C
  intro e W1 h1
  cases r with
  | error q =>
    obtain ⟨rfl, hb, hq⟩ := h1
    have hne : (q != 0) = true := bne_iff_ne.2 hq
    have HB := Lib.hid hb
    clear hb hq
    go_wp2_with fail
    go_ret
    exact ⟨rfl, HB.out⟩
  | ok l =>
    obtain ⟨v, P, rfl, hN, hl, hb⟩ := h1
    have HN := Lib.hid (And.intro hN (And.intro hl hb))
    obtain ⟨A, c, rfl, _⟩ := own_form hN.row
    clear hN hl hb
    go_wp2_with fail
    go_ret
    exact ⟨_, P, rfl, HN.out.1, HN.out.2.1, HN.out.2.2⟩
set_option maxHeartbeats 2000000 in
theorem made_at {w W : World} {A1 A2 : Option Addr} {n1 c1 n2 c2 : Nat} (hp : PlanIn w A1 n1 c1 A2 n2 c2) (hb : Below w.heap.size w W) :
    Calls Try.prog 7 #[.agg #[.slice A1 n1 c1, .slice A2 n2 c2]] W fun e w' => ∃ (g n cap : Nat) (P : List NK), e = .returned (.slice (some ⟨g, 0, none⟩) n cap) ∧ Nds W.heap.size w' (.slice (some ⟨g, 0, none⟩) n cap) P ∧ P.length = n ∧ TreeOk (lst P) ∧ Below W.heap.size W w' := by
  obtain ⟨W0, hW0⟩ : ∃ W0, W.alloc (.cells #[.slice A1 n1 c1, .slice A2 n2 c2] 25) = W0 := ⟨_, rfl⟩
  have pq0 : W0.cell? ⟨W.heap.size, 0, none⟩ = some (.slice A1 n1 c1) := by rw [← hW0, World.cell?_alloc_mark]; rfl
  have pq1 : W0.cell? ⟨W.heap.size, 1, none⟩ = some (.slice A2 n2 c2) := by rw [← hW0, World.cell?_alloc_mark]; rfl
  have hb0 : Below W.heap.size W W0 := by rw [← hW0]; exact (Below.refl _ _).alloc (Nat.le_refl _) _
  have HB0 := Lib.hid hb0
  have HP := Lib.hid (planIn_in hp (below_step hb hb0))
  have h48 : pySz 4 ≤ 30000 := by decide
  clear hp hb hb0
  go_enter Try.func7, Try.ntmps7
  go_wp2_with fail
  clear hW0 pq0 pq1
  refine (play_at HP.out (Below.refl _ _)).mono ?_
  rintro e W1 ⟨s, hs, rfl, hbb⟩
  have hsz : s.size ≤ 30000 := by have := pyN_len 4 _ hs; rw [byt_len] at this; omega
  have HB1 := Lib.hid (below_step HB0.out hbb)
  clear hs hbb h48
  obtain ⟨r, hr⟩ : ∃ r, inParse (byt s) true = r := ⟨_, rfl⟩
  have HR := Lib.hid hr
  clear hr
  go_wp2_with fail
  refine (tree_at W1 s (by omega) r HR.out).mono ?_
  intro e W2 h2
  cases r with
  | error q =>
    obtain ⟨rfl, hb2⟩ := h2
    have HB2 := Lib.hid (below_step HB1.out hb2)
    clear hb2
    have hone := Nds.one (B := W.heap.size) W2 HB2.out.size oneX rfl
    have hcc : (ndC (oneX, .slice none 0 0)).toArray = #[.int .i64 1, .int .i64 0, .string ⟨#[33, 33, 115, 116, 114]⟩, .string ⟨#[]⟩, .string ⟨#[120]⟩, .int .i64 0, .int .i64 1, .int .i64 0, .int .i64 0, .slice none 0 0] := rfl
    rw [hcc] at hone
    have HO := Lib.hid hone
    clear hone hcc
    go_wp2_with fail
    go_ret
    exact ⟨_, _, _, _, rfl, HO.out, rfl, oneX_tree, HB2.out.alloc HB2.out.size _⟩
  | ok l =>
    obtain ⟨v, P, rfl, hN, hl, hb2⟩ := h2
    have hok := parse_tree HR.out
    rw [← hl] at hok
    have hpl : 0 < P.length := by have := hok.pos; rwa [lst_len] at this
    obtain ⟨g, cap, rfl, h1, h2, h3, h4⟩ := hN.form hpl
    obtain ⟨n, hn⟩ : ∃ n, P.length = n := ⟨_, rfl⟩
    rw [hn] at hN ⊢
    have HN := Lib.hid (And.intro (hN.low HB1.out.size) (And.intro hn (And.intro hok (below_step HB1.out hb2))))
    clear hN hl hb2 hok hpl hn h1 h2 h3 h4
    go_wp2_with fail
    go_ret
    exact ⟨_, _, _, P, rfl, HN.out.1, HN.out.2.1, HN.out.2.2.1, HN.out.2.2.2⟩
set_option maxHeartbeats 1000000 in
theorem cloneN_at (A : Option Addr) (n c : Nat) (ys : List Value) (w : World) (hl : ys.length = n * 10) (hn : n ≤ 1000000) (hr : RdC w A ys) (h1 : ∀ u ∈ ys, u.oneCell' = true) (hA : A = none → c = 0) (hnc : n ≤ c) :
    Calls Try.prog 65 #[.slice A n c] w fun e w' => ∃ A' cap, e = .returned (.slice A' n cap) ∧ n ≤ cap ∧ cap ≤ 9223372036854775807 ∧ (A' = none → cap = 0) ∧ w'.ownsRow w.heap.size 41 10 (.slice A' n cap) n ys ∧ Below w.heap.size w w' := by
  cases A with
  | none =>
    obtain rfl : c = 0 := hA rfl
    obtain rfl : n = 0 := by omega
    have : ys = [] := List.eq_nil_of_length_eq_zero hl
    subst this
    clear hr hA hl h1
    have heq := fun W => Lib.run_eql_slice_nil (P := Try.prog) W 26 41 none 0 0 0 0 Try.underlying26
    go_enter Try.func65, Try.ntmps65
    go_wp2
    go_ret
    exact ⟨none, 0, rfl, Nat.le_refl _, by omega, fun _ => rfl, own_nil _ _ _ _, Below.refl _ _⟩
  | some ad =>
    have hb1 : Below w.heap.size w (w.alloc (.cells #[] 41)) := (Below.refl _ _).alloc (Nat.le_refl _) _
    have hown0 := World.ownsRow_lit (base := w.heap.size) (e := 41) (size := 10) w #[] 0 (Nat.le_refl _) (by unfold maxLen; omega) (by simp)
    obtain ⟨v', w', hrun, ho, hg, hv⟩ := run_append_rows Try.underlying26 node_info rfl (by omega) (by omega) _ w.heap.size _ 0 [] hown0 (by simp) (some ad) n c ys hl (hr.below hb1) h1 (by omega)
    obtain ⟨A', cap', rfl, h1, h2, h3⟩ := own_form ho
    have hb2 := hb1.grown hg (by simp) (own_base hown0)
    have HO := Lib.hid (And.intro ho (And.intro hb2 h3))
    have HRUN := Lib.hid hrun
    clear ho hg hv hr hrun h3 hb2 hb1 hown0 hA hl
    have heq := fun W => Lib.run_eql_slice_nil (P := Try.prog) W 26 41 (some ad) n c 0 0 Try.underlying26
    go_enter Try.func65, Try.ntmps65
    go_wp2_with (at_builtin; refine wpList_append_known rfl _ (.tmp 6) 26 rfl _ (.slice (some ad) n c) _ _ rfl rfl HRUN.out ?_)
    go_ret
    have ho := HO.out.1
    have e0 : 0 + n = n := by omega
    simp only [List.nil_append, e0] at ho
    rw [e0] at h1
    exact ⟨A', cap', by simp, h1, h2, HO.out.2.2, ho, HO.out.2.1⟩
set_option maxHeartbeats 1000000 in
theorem cloneI_at (A : Option Addr) (n c : Nat) (ys : List Value) (w : World) (hl : ys.length = n) (hn : n ≤ 1000000) (hr : RdC w A ys) (h1 : ∀ u ∈ ys, u.oneCell' = true) (hA : A = none → c = 0) (hnc : n ≤ c) :
    Calls Try.prog 66 #[.slice A n c] w fun e w' => ∃ A' cap, e = .returned (.slice A' n cap) ∧ n ≤ cap ∧ cap ≤ 9223372036854775807 ∧ (A' = none → cap = 0) ∧ w'.ownsRow w.heap.size 3 1 (.slice A' n cap) n ys ∧ Below w.heap.size w w' := by
  cases A with
  | none =>
    obtain rfl : c = 0 := hA rfl
    obtain rfl : n = 0 := by omega
    have : ys = [] := List.eq_nil_of_length_eq_zero hl
    subst this
    clear hr hA hl h1
    have heq := fun W => Lib.run_eql_slice_nil (P := Try.prog) W 22 3 none 0 0 0 0 Try.underlying22
    go_enter Try.func66, Try.ntmps66
    go_wp2
    go_ret
    exact ⟨none, 0, rfl, Nat.le_refl _, by omega, fun _ => rfl, own_nil _ _ _ _, Below.refl _ _⟩
  | some ad =>
    have hb1 : Below w.heap.size w (w.alloc (.cells #[] 3)) := (Below.refl _ _).alloc (Nat.le_refl _) _
    have hown0 := World.ownsRow_lit (base := w.heap.size) (e := 3) (size := 1) w #[] 0 (Nat.le_refl _) (by unfold maxLen; omega) (by simp)
    obtain ⟨v', w', hrun, ho, hg, hv⟩ := run_append_rows Try.underlying22 int_info rfl (by omega) (by omega) _ w.heap.size _ 0 [] hown0 (by simp) (some ad) n c ys (by omega) (hr.below hb1) h1 (by omega)
    obtain ⟨A', cap', rfl, h1, h2, h3⟩ := own_form ho
    have hb2 := hb1.grown hg (by simp) (own_base hown0)
    have HO := Lib.hid (And.intro ho (And.intro hb2 h3))
    have HRUN := Lib.hid hrun
    clear ho hg hv hr hrun h3 hb2 hb1 hown0 hA hl
    have heq := fun W => Lib.run_eql_slice_nil (P := Try.prog) W 22 3 (some ad) n c 0 0 Try.underlying22
    go_enter Try.func66, Try.ntmps66
    go_wp2_with (at_builtin; refine wpList_append_known rfl _ (.tmp 6) 22 rfl _ (.slice (some ad) n c) _ _ rfl rfl HRUN.out ?_)
    go_ret
    have ho := HO.out.1
    have e0 : 0 + n = n := by omega
    simp only [List.nil_append, e0] at ho
    rw [e0] at h1
    exact ⟨A', cap', by simp, h1, h2, HO.out.2.2, ho, HO.out.2.1⟩
/-- A list's nodes with the values of their Kids' slices. -/
theorem GL.gk {W : World} {A : Option Addr} {n cap : Nat} {l : List Gn} (h : GL W A n cap l) : ∃ L : List GK, glst L = l ∧ L.length = n ∧ RdC W A (gksC L) ∧
    ∀ (i : Nat) (p : GK), L[i]? = some p → ∃ K c, p.2 = .slice K p.1.kids.length c ∧ p.1.kids.length ≤ c ∧ c ≤ 9223372036854775807 ∧ (K = none → c = 0) ∧ RdC W K (ki p.1.kids) := by
  have hx : ∀ (i : Nat), ∃ v : Value, ∀ x, l[i]? = some x → ∃ g o, A = some ⟨g, o, none⟩ ∧ ∃ K c, v = .slice K x.kids.length c ∧ x.kids.length ≤ c ∧ c ≤ 9223372036854775807 ∧ (K = none → c = 0) ∧ RdC W K (ki x.kids) ∧ ∀ (j : Nat) (u : Value), (gnC x v)[j]? = some u → W.cell? ⟨g, o + i * 10 + j, none⟩ = some u := by
    intro i
    cases hi : l[i]? with
    | none => exact ⟨.bool false, fun x hx => by cases hx⟩
    | some x =>
      obtain ⟨g, o, e, K, c, q⟩ := h.at_ i x hi
      refine ⟨.slice K x.kids.length c, fun y hy => ?_⟩
      injection hy with hy
      subst hy
      exact ⟨g, o, e, K, c, rfl, q⟩
  have ⟨F, hF⟩ := Classical.axiomOfChoice hx
  have hlen : (l.mapIdx fun i x => (x, F i)).length = n := by rw [List.length_mapIdx]; exact h.len
  have hat : ∀ (i : Nat) (p : GK), (l.mapIdx fun i x => (x, F i))[i]? = some p → l[i]? = some p.1 ∧ p.2 = F i := by
    intro i p hp
    rw [List.getElem?_mapIdx, Option.map_eq_some_iff] at hp
    obtain ⟨x, hx, rfl⟩ := hp
    exact ⟨hx, rfl⟩
  refine ⟨l.mapIdx fun i x => (x, F i), ?_, hlen, ?_, ?_⟩
  · apply List.ext_getElem?
    intro i
    simp only [glst, List.getElem?_map, List.getElem?_mapIdx, Option.map_map]
    cases l[i]? <;> rfl
  · intro k v hk
    have hkl := (List.getElem?_eq_some_iff.1 hk).1
    rw [gksC_len, hlen] at hkl
    have hi : k / 10 < (l.mapIdx fun i x => (x, F i)).length := by rw [hlen]; omega
    have hp := List.getElem?_eq_getElem hi
    obtain ⟨h1, h2⟩ := hat _ _ hp
    obtain ⟨g, o, e, K, c, q1, q2, q3, q4, q5, q6⟩ := hF _ _ h1
    refine ⟨g, o, e, ?_⟩
    have hk2 : (gksC (l.mapIdx fun i x => (x, F i)))[k / 10 * 10 + k % 10]? = some v := by rw [show k / 10 * 10 + k % 10 = k by omega]; exact hk
    rw [gksC_at _ _ _ _ hp (by omega), gkC, h2] at hk2
    have := q6 _ _ hk2
    rwa [show o + k / 10 * 10 + k % 10 = o + k by omega] at this
  · intro i p hp
    obtain ⟨h1, h2⟩ := hat _ _ hp
    obtain ⟨g, o, e, K, c, q1, q2, q3, q4, q5, q6⟩ := hF _ _ h1
    exact ⟨K, c, by rw [h2]; exact q1, q2, q3, q4, q5⟩
def mixK (f : Int → Int) (ks : List Int) (j : Nat) : List Int := (ks.take j).map f ++ ks.drop j
theorem mixK_zero (f : Int → Int) (ks : List Int) : mixK f ks 0 = ks := by simp [mixK]
theorem mixK_all (f : Int → Int) (ks : List Int) : mixK f ks ks.length = ks.map f := by simp [mixK]
theorem mixK_at {f : Int → Int} {ks : List Int} {j : Nat} {k : Int} (h : ks[j]? = some k) : (mixK f ks j)[j]? = some k := by
  have hj := (List.getElem?_eq_some_iff.1 h).1
  unfold mixK
  rw [List.getElem?_append_right (by simp; omega), List.getElem?_drop]
  simp only [List.length_map, List.length_take]
  rw [show j + (j - min j ks.length) = j by omega]
  exact h
theorem mixK_step {f : Int → Int} {ks : List Int} {j : Nat} {k : Int} (h : ks[j]? = some k) : (ki (mixK f ks j)).set j (.int .i64 (f k)) = ki (mixK f ks (j + 1)) := by
  have hj := (List.getElem?_eq_some_iff.1 h).1
  unfold ki
  rw [← List.map_set]
  congr 1
  unfold mixK
  rw [List.set_append_right _ _ (by simp; omega)]
  simp only [List.length_map, List.length_take]
  rw [show j - min j ks.length = 0 by omega, List.drop_eq_getElem_cons hj, List.set_cons_zero, List.take_succ_eq_append_getElem hj, List.map_append]
  have : ks[j] = k := by rw [List.getElem?_eq_getElem hj] at h; injection h
  simp [this]
theorem ki_one (l : List Int) : ∀ u ∈ ki l, u.oneCell' = true := by
  intro u hu
  obtain ⟨k, _, rfl⟩ := List.mem_map.1 hu
  rfl
theorem row_addr {W : World} {B n size : Nat} {e : TypeId} {A : Option Addr} {cap : Nat} {xs : List Value} (h : W.ownsRow B e size (.slice A n cap) n xs) (h0 : 0 < n) : ∃ g, A = some ⟨g, 0, none⟩ ∧ B ≤ g ∧ g < W.heap.size := by
  rcases h.2 with ⟨e1, h1⟩ | ⟨g, cap', cur, e1, hb, hg, _⟩
  · omega
  · simp only [Value.slice.injEq] at e1
    exact ⟨g, e1.1, hb, (Array.getElem?_eq_some_iff.1 hg).1⟩
theorem sub1_at (V : World) (bx : Nat) (a k : Int) (hc : V.cell? ⟨bx, 0, none⟩ = some (.int .i64 a)) (h1 : -4611686018427387904 ≤ k) (h2 : k ≤ 4611686018427387904) (h3 : 0 ≤ a) (h4 : a ≤ 1000000) :
    Calls Try.prog 43 #[.int .i64 k, .pointer (some ⟨bx, 0, none⟩)] V fun e w' => e = .returned (.int .i64 (k - a)) ∧ V = w' := by
  go_enter Try.func43, Try.ntmps43
  go_wp2_with fail
  go_ret
  exact ⟨rfl, by trivial⟩
set_option maxHeartbeats 8000000 in
theorem copied_sub {W : World} {A : Option Addr} {n cap bx : Nat} {a : Int} {l : List Gn} (hL : GL W A n cap l) (hS : Small l) (hn : n ≤ 1000000) (hc : W.cell? ⟨bx, 0, none⟩ = some (.int .i64 a)) (h3 : 0 ≤ a) (h4 : a ≤ 1000000) :
    Calls Try.prog 41 #[.slice A n cap, .func (.func 43) #[] #[.pointer (some ⟨bx, 0, none⟩)]] W fun e w' => ∃ A' cap' P, e = .returned (.slice A' n cap') ∧ n ≤ cap' ∧ cap' ≤ 9223372036854775807 ∧ GNds W.heap.size w' (.slice A' n cap') P ∧ P.length = n ∧ glst P = l.map (Gn.mapK (· - a)) ∧ Below W.heap.size W w' := by
  obtain ⟨L, hLl, hLn, hrd, hks⟩ := hL.gk
  have hle := hL.le
  have hmx := hL.max
  have hone : ∀ u ∈ gksC L, u.oneCell' = true := by
    intro u hu
    obtain ⟨p, hp, hu⟩ := List.mem_flatMap.1 hu
    obtain ⟨i, hi⟩ := List.mem_iff_getElem?.1 hp
    obtain ⟨K, c, e, _⟩ := hks i p hi
    simp only [gkC, gnC, List.mem_cons, List.not_mem_nil, or_false] at hu
    rcases hu with rfl | rfl | rfl | rfl | rfl | rfl | rfl | rfl | rfl | rfl
    all_goals first | rfl | (rw [e]; rfl)
  have CL := Lib.hid (cloneN_at A n cap (gksC L) W (by rw [gksC_len, hLn]) hn hrd hone hL.nil hle)
  have HK := Lib.hid hks
  have HS : Hid (∀ (i : Nat) (p : GK), L[i]? = some p → p.1.kids.length ≤ 1000000 ∧ ∀ k ∈ p.1.kids, -4611686018427387904 ≤ k ∧ k ≤ 4611686018427387904) := fun i p hp => hS p.1 (by rw [← hLl]; exact List.mem_map.2 ⟨p, List.mem_of_getElem? hp, rfl⟩)
  have HRD := Lib.hid hrd
  have HLL := Lib.hid hLl
  have HLN := Lib.hid hLn
  have HC := Lib.hid hc
  clear hrd hks hone hL hS hLl hLn hc
  go_enter Try.func41, Try.ntmps41
  go_wp2_with fail
  refine CL.out.mono ?_
  clear CL
  rintro e W1 ⟨A2, cap2, rfl, m1, m2, m3, hrow, hb⟩
  have HB1 := Lib.hid hb
  have HROW := Lib.hid hrow
  clear hb hrow m3
  go_wp2_with fail
  go_loopw [14] (fun q V => ∃ (t : Nat) (P : List GK), t ≤ n ∧ q = .int .i64 (t : Int) ∧ Hid (Cpy W.heap.size V (.slice A2 n cap2) L (· - a) t P ∧ Below W.heap.size W V)) (fun q _ => n - (intOf q).toNat)
  case atStart => exact ⟨0, L, Nat.zero_le _, rfl, Cpy.start (by rw [HLN.out]; exact HROW.out), HB1.out⟩
  case round =>
    obtain ⟨t, P, ht, rfl, HQ⟩ := hrel
    obtain ⟨V, hV⟩ : ∃ z, z = wr := ⟨_, rfl⟩
    subst hV
    by_cases hlt : t < n
    · have dt : (t : Int) < (n : Int) := by omega
      obtain ⟨g2, rfl, hg2, hg2V⟩ := row_addr (HLN.out ▸ HQ.out.1.row) (by omega)
      obtain ⟨x, hx⟩ : ∃ x, L[t]? = some x := ⟨L[t]'(by rw [HLN.out]; omega), List.getElem?_eq_getElem _⟩
      obtain ⟨K, c, ek, k1, k2, k3, hkr⟩ := HK.out t x hx
      obtain ⟨g, o, rfl, hcell⟩ := HRD.out.addr (by rw [gksC_len, HLN.out]; omega)
      have y9 : V.cell? ⟨g, o + t * 10 + 9, none⟩ = some (.slice K x.1.kids.length c) := by
        have := hcell (t * 10 + 9) _ (by rw [gksC_at L t 9 x hx (by omega)]; rfl)
        rw [ek, ← Nat.add_assoc] at this
        exact cell_keep HQ.out.2 this
      obtain ⟨s1, s2⟩ := HS.out t x hx
      obtain ⟨ks, hks⟩ : ∃ z, x.1.kids = z := ⟨_, rfl⟩
      obtain ⟨kl, hkl⟩ : ∃ z, ks.length = z := ⟨_, rfl⟩
      rw [hks, hkl] at y9
      rw [hks] at hkr s1 s2 k1
      rw [hkl] at s1 k1
      have CI := Lib.hid (cloneI_at K kl c (ki ks) V (by rw [ki_len, hkl]) s1 (hkr.below HQ.out.2) (ki_one ks) k3 k1)
      have HX := Lib.hid (And.intro hx (And.intro hks (And.intro hkl s2)))
      clear hcell hkr hx ek k3 hks hkl s2
      go_wp2_with fail
      refine CI.out.mono ?_
      clear CI
      rintro e V1 ⟨K2, c2, rfl, n1, n2, n3, hkrow, hbV⟩
      have HI := Lib.hid (And.intro hkrow hbV)
      clear n3 hkrow hbV
      have hz2 : V.frozen? ⟨g2, t * 10 + 9, none⟩ = false := (HLN.out ▸ HQ.out.1.row).frozenAt _
      clear y9
      go_wp2_with fail
      go_loopw [25] (fun q V2 => ∃ j : Nat, j ≤ kl ∧ q = .int .i64 (j : Int) ∧ Hid (V2.ownsRow V.heap.size 3 1 (.slice K2 kl c2) kl (ki (mixK (· - a) ks j)) ∧ Below V.heap.size V V2)) (fun q _ => kl - (intOf q).toNat)
      case atStart => exact ⟨0, Nat.zero_le _, rfl, by rw [mixK_zero]; exact HI.out.1, HI.out.2⟩
      case round =>
        obtain ⟨j, hj, rfl, HJ⟩ := hrel
        obtain ⟨V2, hV2⟩ : ∃ z, z = wr := ⟨_, rfl⟩
        subst hV2
        by_cases hjl : j < kl
        · have dj : (j : Int) < (kl : Int) := by omega
          obtain ⟨kb, rfl, hkb, hkb2⟩ := row_addr HJ.out.1 (by omega)
          obtain ⟨k, hk⟩ : ∃ z, ks[j]? = some z := ⟨ks[j]'(by rw [HX.out.2.2.1]; omega), List.getElem?_eq_getElem _⟩
          obtain ⟨b1, b2⟩ := HX.out.2.2.2 k (List.mem_of_getElem? hk)
          have ck : V2.cell? ⟨kb, j, none⟩ = some (.int .i64 k) := by rw [HJ.out.1.cellAt _ (by omega), ki_at (mixK_at hk)]
          have fz := HJ.out.1.frozenAt j
          have CS := Lib.hid (sub1_at V2 bx a k (cell_keep HJ.out.2 (cell_keep HQ.out.2 HC.out)) b1 b2 h3 h4)
          have HN : Hid ((V2.setCell ⟨kb, j, none⟩ (.int .i64 (k - a))).ownsRow V.heap.size 3 1 (.slice (some ⟨kb, 0, none⟩) kl c2) kl (ki (mixK (· - a) ks (j + 1))) ∧ Below V.heap.size V (V2.setCell ⟨kb, j, none⟩ (.int .i64 (k - a)))) := by
            refine ⟨?_, HJ.out.2.setCell (p := ⟨kb, j, none⟩) hkb _⟩
            rw [← mixK_step hk]
            exact (HJ.out.1.stored j _).1
          clear hk
          go_wp2_with fail
          refine CS.out.mono ?_
          clear CS
          rintro e w3 ⟨rfl, rfl⟩
          go_wp2_with fail
          go_roundw
          case rel => exact ⟨j + 1, by omega, by go_num, HN.out⟩
          case measure => simp [intOf]; omega
        · obtain rfl : j = kl := by omega
          have z2 : V2.frozen? ⟨g2, t * 10 + 9, none⟩ = false := (HLN.out ▸ (HQ.out.1.below HJ.out.2).row).frozenAt _
          have z3 : V2.cell? ⟨g2, t * 10 + 9, none⟩ = some x.2 := by
            have hq := HQ.out.1.below HJ.out.2
            have hPt : P[t]? = some x := by rw [hq.rest t (Nat.le_refl _)]; exact HX.out.1
            have hr := hq.row
            rw [HLN.out] at hr
            rw [hr.cellAt _ (by omega), gksC_at P t 9 x hPt (by omega)]
            rfl
          have HN : Hid (Cpy W.heap.size (V2.setCell ⟨g2, t * 10 + 9, none⟩ (.slice K2 j c2)) (.slice (some ⟨g2, 0, none⟩) n cap2) L (· - a) (t + 1) (P.set t (x.1.mapK (· - a), .slice K2 j c2)) ∧ Below W.heap.size W (V2.setCell ⟨g2, t * 10 + 9, none⟩ (.slice K2 j c2))) := by
            have hx := HX.out
            have hW : W.heap.size ≤ V.heap.size := HQ.out.2.size
            refine ⟨?_, (below_step HQ.out.2 HJ.out.2).setCell (p := ⟨g2, t * 10 + 9, none⟩) hg2 _⟩
            have hq := HQ.out.1
            have hm : mixK (· - a) ks j = ks.map (· - a) := by rw [← hx.2.2.1]; exact mixK_all _ _
            have hr := HJ.out.1
            rw [hm] at hr
            have hst := Cpy.step (V2 := V2) (kv := .slice K2 j c2) (cap := cap2) (g := g2) (i := t) (x := x) (l := L) (P := P) (f := (· - a)) (by rw [HLN.out]; exact hq) hx.1 HJ.out.2 hW (by rw [hx.2.1, hx.2.2.1]; exact hr)
            rw [HLN.out] at hst
            exact hst
          go_wp2_with fail
          first
          | exact ⟨⟨t + 1, _, by omega, by go_num, HN.out⟩, by simp [intOf]; omega⟩
          | (repeat apply Exists.intro
             exact ⟨⟨t + 1, _, by omega, by go_num, HN.out⟩, by simp [intOf]; omega⟩)
    · obtain rfl : t = n := by omega
      go_wp2_with fail
      go_ret
      obtain ⟨q1, q2⟩ := HQ.out.1.end_ HLN.out
      exact ⟨A2, cap2, P, rfl, m1, m2, q1, by rw [HQ.out.1.len]; exact HLN.out, by rw [q2, HLL.out], HQ.out.2⟩
theorem sliceN_lh {W0 : World} {A : Option Addr} {n c : Nat} {l : List Gn} (hL : GL W0 A n c l) (lo hi : Nat) (h1 : lo ≤ hi) (h2 : hi ≤ n) : ∃ A',
    (∀ W, (Instr.slice 26 (.slice A n c) (some (.int .i64 (lo : Int))) (some (.int .i64 (hi : Int))) none).run Try.prog W = .ok (.slice A' (hi - lo) (c - lo)) W) ∧
    ∀ W, GL W A n c l → GL W A' (hi - lo) (c - lo) ((l.take hi).drop lo) := by
  have hnc := hL.le
  have hmx := hL.max
  obtain ⟨i, hi', hz, hs1, _⟩ := info_parts node_info
  have hel : Try.prog.elem 26 = 41 := by kernel_rfl
  have hun : Try.prog.underlying 26 = some (.slice (Try.prog.elem 26)) := by rw [hel]; exact Try.underlying26
  have hrun : ∀ W, (Instr.slice 26 (.slice A n c) (some (.int .i64 (lo : Int))) (some (.int .i64 (hi : Int))) none).run Try.prog W = .ok (sliced A lo hi c 10) W := by
    intro W
    rw [run_slice_lh W 26 A n c hun .i64 .i64 _ _ (by omega) (by omega) (by omega), hel]
    simp [sizeOf, typeInfo, hi', hs1, sliced]
  cases A with
  | none =>
    have hc : c = 0 := hL.nil rfl
    refine ⟨none, fun W => by rw [hrun W]; simp [sliced], fun W h => ?_⟩
    exact h.cut h1 h2
  | some a =>
    by_cases h : c = lo
    · refine ⟨some a, fun W => by rw [hrun W]; simp [sliced, h], fun W hr => ?_⟩
      have : (l.take hi).drop lo = [] := List.eq_nil_of_length_eq_zero (by rw [List.length_drop, List.length_take]; omega)
      rw [this]
      exact ⟨by simp; omega, by omega, by omega, fun e => (by cases e), fun i x hx => by simp at hx⟩
    · refine ⟨some (a.add (lo * 10)), fun W => by rw [hrun W]; simp [sliced, h], fun W hr => ?_⟩
      have hcut := hr.cut h1 h2
      refine ⟨hcut.len, hcut.le, hcut.max, fun e => (by cases e), fun i x hx => ?_⟩
      obtain ⟨g, o, e, q⟩ := hcut.at_ i x hx
      refine ⟨g, o, ?_, q⟩
      rw [← e]
      obtain ⟨b, off, p⟩ := a
      have hx2 := hx
      rw [List.getElem?_drop, List.getElem?_take] at hx2
      split at hx2
      · obtain ⟨g', o', e', _⟩ := hr.at_ _ x hx2
        injection e' with e'
        injection e' with e1 e2 e3
        subst e1 e2 e3
        rw [add_plain]
        rfl
      · cases hx2
theorem own_lower {W : World} {B C n size : Nat} {e : TypeId} {v : Value} {xs : List Value} (h : W.ownsRow B e size v n xs) (hC : C ≤ B) : W.ownsRow C e size v n xs := by
  refine ⟨h.1, ?_⟩
  rcases h.2 with h | ⟨g', cap', cur, a1, a2, a3⟩
  · exact .inl h
  · exact .inr ⟨g', cap', cur, a1, Nat.le_trans hC a2, a3⟩
theorem GNds.lower {B C : Nat} {W : World} {v : Value} {P : List GK} (h : GNds B W v P) (hC : C ≤ B) : GNds C W v P :=
  ⟨own_lower h.row hC, fun i p hp => own_lower (h.kid i p hp) hC, h.apart, h.off⟩
theorem GNds.nil (B : Nat) (W : World) : GNds B W (.slice none 0 0) [] := ⟨own_nil W B 10 _, fun i p h => by simp at h, fun i j p q k h => by simp at h, fun i p k h => by simp at h⟩
/-- A list of nodes in memory that is new since W. -/
def NewG (W : World) (l : List Gn) (e : Ending) (w' : World) : Prop :=
  ∃ A m cap P, e = .returned (.slice A m cap) ∧ m ≤ cap ∧ cap ≤ 9223372036854775807 ∧ GNds W.heap.size w' (.slice A m cap) P ∧ P.length = m ∧ glst P = l ∧ Below W.heap.size W w'
theorem bhE_le {n e : Nat} {ks : List Int} (h : e ≤ n) : e ≤ bhE n ks e ∧ bhE n ks e ≤ n := by
  unfold bhE
  split
  · exact ⟨Nat.le_refl _, h⟩
  · omega
theorem bhGo_le {l : List Gn} {n : Nat} : ∀ (f i e : Nat), e ≤ n → e ≤ bhGo l n f i e ∧ bhGo l n f i e ≤ n
  | 0, i, e, h => ⟨Nat.le_refl _, h⟩
  | f + 1, i, e, h => by
    rw [bhGo]
    split
    · have h1 := bhE_le (ks := gKids l i) h
      have h2 := bhGo_le (l := l) f (i + 1) _ h1.2
      omega
    · exact ⟨Nat.le_refl _, h⟩
def subF (l : List Gn) (a : Int) : List Gn := if 0 ≤ a ∧ a < (l.length : Int) then ((l.take (bhGo l l.length (l.length - a.toNat) a.toNat (a.toNat + 1))).drop a.toNat).map (Gn.mapK (· - a)) else []
theorem Small.sub {l : List Gn} (h : Small l) (a b : Nat) : Small ((l.take b).drop a) := fun x hx => h x (List.mem_of_mem_take (List.mem_of_mem_drop hx))
set_option maxHeartbeats 8000000 in
theorem sub_at {W : World} {A : Option Addr} {n cap : Nat} {a : Int} {l : List Gn} (hL : GL W A n cap l) (hS : Small l) (hn : n ≤ 1000000) :
    Calls Try.prog 10 #[.slice A n cap, .int .i64 a] W (NewG W (subF l a)) := by
  have hle := hL.le
  have hmx := hL.max
  have hb1 : Below W.heap.size W (W.alloc (.cells #[.int .i64 a] 3)) := (Below.refl _ _).alloc (Nat.le_refl _) _
  obtain ⟨W1, hW1⟩ : ∃ z, W.alloc (.cells #[.int .i64 a] 3) = z := ⟨_, rfl⟩
  obtain ⟨bx, hbx⟩ : ∃ z, W.heap.size = z := ⟨_, rfl⟩
  have c0 : W1.cell? ⟨bx, 0, none⟩ = some (.int .i64 a) := by rw [← hW1, ← hbx, World.cell?_alloc_mark]; rfl
  rw [hW1] at hb1
  by_cases hin : 0 ≤ a ∧ a < (n : Int)
  · obtain ⟨a0, rfl⟩ : ∃ a0 : Nat, a = (a0 : Int) := ⟨a.toNat, by omega⟩
    have ha : a0 < n := by omega
    obtain ⟨R, hR⟩ : ∃ z, bhGo l n (n - a0) a0 (a0 + 1) = z := ⟨_, rfl⟩
    have hRle := bhGo_le (l := l) (n := n) (n - a0) a0 (a0 + 1) (by omega)
    rw [hR] at hRle
    have hsub : subF l (a0 : Int) = ((l.take R).drop a0).map (Gn.mapK (· - (a0 : Int))) := by
      unfold subF
      rw [if_pos (by rw [hL.len]; exact hin), hL.len, Int.toNat_natCast, hR]
    have CW := Lib.hid (within_at W1 A n cap hle hmx (a0 : Int))
    have CB : Hid (∀ V, Below W1.heap.size W1 V → Calls Try.prog 42 #[.slice A n cap, .int .i64 (a0 : Int)] V fun e w' => e = .returned (.int .i64 (R : Int)) ∧ V = w') := fun V hV => by
      have := behind_at ((hL.below hb1).below hV) hS ha hn
      rw [hR] at this
      exact this
    obtain ⟨A', hsl, hcut⟩ := sliceN_lh hL a0 R (by omega) hRle.2
    obtain ⟨m, hm⟩ : ∃ z, R - a0 = z := ⟨_, rfl⟩
    obtain ⟨cc, hcc⟩ : ∃ z, cap - a0 = z := ⟨_, rfl⟩
    rw [hm, hcc] at hsl hcut
    have CC : Hid (∀ V, Below W1.heap.size W1 V → Calls Try.prog 41 #[.slice A' m cc, .func (.func 43) #[] #[.pointer (some ⟨bx, 0, none⟩)]] V fun e w' => ∃ A' cap' P, e = .returned (.slice A' m cap') ∧ m ≤ cap' ∧ cap' ≤ 9223372036854775807 ∧ GNds V.heap.size w' (.slice A' m cap') P ∧ P.length = m ∧ glst P = ((l.take R).drop a0).map (Gn.mapK (· - (a0 : Int))) ∧ Below V.heap.size V w') := fun V hV =>
      copied_sub (hcut V ((hL.below hb1).below hV)) (hS.sub _ _) (by omega) (cell_keep hV c0) (by omega) (by omega)
    have HB1 := Lib.hid hb1
    have HSUB := Lib.hid hsub
    clear hL hS hb1 hsub hcut hin hR hRle hm hcc
    have dn : decide ((0 : Int) ≤ (a0 : Int)) = true := decide_eq_true (by omega)
    have dn2 : decide ((a0 : Int) < (n : Int)) = true := decide_eq_true (by omega)
    have hmf : ∀ (fn : Fn) (first cap : Array Value) (w : World), (Instr.makeFunc fn first cap).run Try.prog w = .ok (.func fn first cap) w := fun _ _ _ _ => rfl
    rw [HSUB.out]
    go_enter Try.func10, Try.ntmps10
    go_wp2_with fail
    refine CW.out.mono ?_
    rintro e w2 ⟨rfl, rfl⟩
    rw [dn, dn2]
    clear CW
    go_wp2_with fail
    go_still_tail 7, (by kernel_rfl)
    repeat still_step
    refine wpStill_step (fun K hK => ?_)
    go_simp
    refine ⟨.int .i64 (R : Int), ?_, hK _ ?_⟩
    · refine (CB.out W1.drew (Below.refl _ _).drew).mono ?_
      rintro e w2 ⟨rfl, rfl⟩
      exact ⟨rfl, rfl⟩
    clear hK K
    have hsl' := hsl W1.drew
    repeat still_step
    refine wpStill_nil ?_
    change wpList _ _ _ _ _ W1.drew
    have HB2 : Hid (Below W.heap.size W W1.drew) := HB1.out.drew
    have CD := Lib.hid (CC.out W1.drew (Below.refl _ _).drew)
    have hsz : W1.drew.heap.size = W1.heap.size := rfl
    obtain ⟨W2, hW2⟩ : ∃ z, W1.drew = z := ⟨_, rfl⟩
    rw [hW2] at HB2 CD ⊢
    clear hW2 hsz hsl' CC CB hmf
    go_wp2_with fail
    refine CD.out.mono ?_
    rintro e w3 ⟨A3, cap3, P, rfl, p1, p2, p3, p4, p5, p6⟩
    have HP := Lib.hid (And.intro p3 (And.intro p4 (And.intro p5 p6)))
    clear p3 p4 p5 p6
    go_wp2_with fail
    go_ret
    exact ⟨A3, m, cap3, P, rfl, p1, p2, HP.out.1.lower HB2.out.size, HP.out.2.1, HP.out.2.2.1, below_step HB2.out HP.out.2.2.2⟩
  · have hsub : subF l a = [] := by unfold subF; rw [if_neg (by rw [hL.len]; exact hin)]
    have CW := Lib.hid (within_at W1 A n cap hle hmx a)
    have hd : (decide (0 ≤ a) && decide (a < (n : Int))) = false := by
      rw [Bool.and_eq_false_iff, decide_eq_false_iff_not, decide_eq_false_iff_not]
      omega
    have HB1 := Lib.hid hb1
    have HSUB := Lib.hid hsub
    clear hL hS hb1 hsub hin
    rw [hd] at CW
    rw [HSUB.out]
    go_enter Try.func10, Try.ntmps10
    go_wp2_with fail
    refine CW.out.mono ?_
    rintro e w2 ⟨rfl, rfl⟩
    clear CW
    go_wp2_with fail
    go_ret
    exact ⟨none, 0, 0, [], rfl, Nat.le_refl _, by omega, GNds.nil _ _, rfl, rfl, HB1.out⟩
theorem TRow.hit {T : Nat → Nat → Prop} {j : Nat} : ∀ {ks : List Nat} {s e : Nat}, TRow T s ks e → s ≤ j → j < e → ∃ k e1, k ∈ ks ∧ T k e1 ∧ k ≤ j ∧ j < e1
  | [], s, e, g, h1, h2 => by have : s = e := g; omega
  | k :: ks, s, e, ⟨g1, e1, g2, g3⟩, h1, h2 => by
    by_cases h : j < e1
    · exact ⟨k, e1, by simp, g2, by omega, h⟩
    · obtain ⟨k', e', q1, q2, q3, q4⟩ := g3.hit (j := j) (by omega) h2
      exact ⟨k', e', List.mem_cons_of_mem _ q1, q2, q3, q4⟩
theorem TRow.mem {T : Nat → Nat → Prop} (hT : ∀ k e, T k e → k < e) : ∀ {ks : List Nat} {s e : Nat}, TRow T s ks e → ∀ k ∈ ks, ∃ e1, T k e1 ∧ s ≤ k ∧ e1 ≤ e
  | [], s, e, g, k, h => by simp at h
  | c :: ks, s, e, ⟨g1, e1, g2, g3⟩, k, h => by
    have h1 := hT _ _ g2
    have h2 := g3.ge hT
    rcases List.mem_cons.1 h with rfl | h
    · exact ⟨e1, g2, by omega, h2⟩
    · obtain ⟨e2, q1, q2, q3⟩ := g3.mem hT k h
      exact ⟨e2, q1, by omega, q3⟩
theorem TRow.last {T : Nat → Nat → Prop} (hT : ∀ k e, T k e → k < e) : ∀ {ks : List Nat} {s e : Nat}, TRow T s ks e → ∀ j, ks.getLast? = some j → T j e ∧ ∀ k ∈ ks, k ≤ j
  | [], s, e, g, j, h => by simp at h
  | [c], s, e, ⟨g1, e1, g2, g3⟩, j, h => by
    have h3 : e1 = e := g3
    simp at h
    subst h h3
    exact ⟨g2, by simp⟩
  | c :: d :: ks, s, e, ⟨g1, e1, g2, g3⟩, j, h => by
    rw [List.getLast?_cons_cons] at h
    obtain ⟨q1, q2⟩ := g3.last hT j h
    refine ⟨q1, fun k hk => ?_⟩
    rcases List.mem_cons.1 hk with rfl | hk
    · have h1 := hT _ _ g2
      obtain ⟨g4, _⟩ := g3
      have := q2 d (by simp)
      omega
    · exact q2 k hk
section
variable {l : List Nd} {E : Nat → Nat}
theorem Ends'.rowT {i : Nat} {x : Nd} (h : Ends' l E) (hx : l[i]? = some x) : TRow (fun k e => k < e ∧ i < k ∧ k < l.length ∧ e = E k) (i + 1) x.kids (E i) := by
  refine (h.node i x hx).2.2.2.imp fun k e ⟨g1, g2, g3⟩ => ⟨?_, g1, g2, g3⟩
  rw [g3]
  exact (h.node k _ (List.getElem?_eq_getElem g2)).1
/-- Each node but the first of a tree is a Kid of one ahead of it. -/
theorem Ends'.parent (h : Ends' l E) : ∀ (m a j : Nat), j - a ≤ m → a < j → a < l.length → j < E a → ∃ (p : Nat) (x : Nd), a ≤ p ∧ p < j ∧ l[p]? = some x ∧ j ∈ x.kids
  | 0, a, j, hm, h1, _, _ => by omega
  | m + 1, a, j, hm, h1, hl, h2 => by
    have hx := List.getElem?_eq_getElem hl
    obtain ⟨k, e, q1, ⟨q2, q3, q4, q5⟩, q6, q7⟩ := (h.rowT hx).hit (by omega) h2
    by_cases hk : k = j
    · subst hk; exact ⟨a, _, Nat.le_refl _, h1, hx, q1⟩
    · subst q5
      obtain ⟨p, x, r1, r2, r3, r4⟩ := Ends'.parent h m k j (by omega) (by omega) q4 q7
      exact ⟨p, x, by omega, r2, r3, r4⟩
/-- Trees lie in one another. -/
theorem Ends'.nest (h : Ends' l E) : ∀ (m a p : Nat), p - a ≤ m → a ≤ p → a < l.length → p < E a → E p ≤ E a
  | m, a, p, hm, h1, hl, h2 => by
    by_cases hap : a = p
    · subst hap; exact Nat.le_refl _
    · cases m with
      | zero => omega
      | succ m =>
        have hx := List.getElem?_eq_getElem hl
        obtain ⟨k, e, q1, ⟨q2, q3, q4, q5⟩, q6, q7⟩ := (h.rowT hx).hit (by omega) h2
        subst q5
        have := Ends'.nest h m k p (by omega) q6 q4 q7
        obtain ⟨e1, ⟨_, _, _, r1⟩, r2, r3⟩ := (h.rowT hx).mem (fun k e g => g.1) k q1
        omega
theorem gKids_tree {i : Nat} {x : Nd} (hx : l[i]? = some x) : gKids (l.map gn) i = x.kids.map fun (k : Nat) => (k : Int) := gKids_at (x := gn x) (by rw [List.getElem?_map, hx]; rfl)
theorem bhE_tree {n m e : Nat} {ks : List Nat} (hm : m ≤ n) (he : e ≤ m) (hk : ∀ k ∈ ks, k + 1 ≤ m) (hl : ∀ j, ks.getLast? = some j → ∀ k ∈ ks, k ≤ j) :
    e ≤ bhE n (ks.map fun (k : Nat) => (k : Int)) e ∧ bhE n (ks.map fun (k : Nat) => (k : Int)) e ≤ m ∧ ∀ k ∈ ks, k + 1 ≤ bhE n (ks.map fun (k : Nat) => (k : Int)) e := by
  unfold bhE
  rw [List.getLast?_map]
  cases hj : ks.getLast? with
  | none =>
    rw [List.getLast?_eq_none_iff.1 hj]
    exact ⟨Nat.le_refl _, he, by simp⟩
  | some j =>
    have h1 := hk j (List.mem_of_getLast? hj)
    dsimp only [Option.map]
    refine ⟨by omega, by omega, fun k hkm => ?_⟩
    have := hl j hj k hkm
    omega
theorem bh_go (h : Ends' l E) {a : Nat} (ha : a < l.length) : ∀ (f i e : Nat), l.length - i ≤ f → a ≤ i → i ≤ e → a < e → e ≤ E a → (∀ (p : Nat) (x : Nd), a ≤ p → p < i → l[p]? = some x → ∀ k ∈ x.kids, k + 1 ≤ e) → bhGo (l.map gn) l.length f i e = E a := by
  have hEa := (h.node a _ (List.getElem?_eq_getElem ha)).2.1
  have stop : ∀ (i e : Nat), i = e → a < e → e ≤ E a → (∀ (p : Nat) (x : Nd), a ≤ p → p < i → l[p]? = some x → ∀ k ∈ x.kids, k + 1 ≤ e) → e = E a := by
    intro i e h1 h2 h3 h4
    subst h1
    by_cases hlt : i < E a
    · obtain ⟨p, x, r1, r2, r3, r4⟩ := h.parent _ a i (Nat.le_refl _) h2 ha hlt
      have := h4 p x r1 r2 r3 i r4
      omega
    · omega
  intro f
  induction f with
  | zero =>
    intro i e hf h1 h2 h3 h4 h5
    exact stop i e (by omega) h3 h4 h5
  | succ f ih =>
    intro i e hf h1 h2 h3 h4 h5
    by_cases hlt : i < e
    · rw [bhGo, if_pos hlt]
      have hil : i < l.length := by omega
      have hx := List.getElem?_eq_getElem hil
      rw [gKids_tree hx]
      have hn := h.nest _ a i (Nat.le_refl _) h1 ha (by omega)
      have hr := h.rowT hx
      obtain ⟨c1, c2, c3⟩ := bhE_tree (n := l.length) (m := E a) (e := e) (ks := l[i].kids) hEa h4
        (fun k hk => by obtain ⟨e1, ⟨q1, _⟩, _, q3⟩ := hr.mem (fun k e g => g.1) k hk; omega)
        (fun j hj => (hr.last (fun k e g => g.1) j hj).2)
      refine ih (i + 1) _ (by omega) (by omega) (by omega) (by omega) c2 fun p x r1 r2 r3 k hk => ?_
      by_cases hp : p = i
      · subst hp
        rw [hx] at r3
        injection r3 with r3
        subst r3
        exact c3 k hk
      · have := h5 p x r1 (by omega) r3 k hk
        omega
    · rw [bhGo, if_neg hlt]
      exact stop i e (by omega) h3 h4 h5
theorem bh_tree (h : Ends' l E) {a : Nat} (ha : a < l.length) : bhGo (l.map gn) l.length (l.length - a) a (a + 1) = E a :=
  bh_go h ha _ _ _ (Nat.le_refl _) (Nat.le_refl _) (by omega) (by omega) (by have := (h.node a _ (List.getElem?_eq_getElem ha)).1; omega) (fun p x r1 r2 => by omega)
/-- A tree's Kids are small. -/
theorem Ends'.small (h : Ends' l E) (hn : l.length ≤ 1000000) (hk : ∀ x ∈ l, x.kids.length ≤ 1000000) : Small (l.map gn) := by
  intro y hy
  obtain ⟨x, hx, rfl⟩ := List.mem_map.1 hy
  refine ⟨by rw [gn_len]; exact hk x hx, fun k hkm => ?_⟩
  obtain ⟨i, hi⟩ := List.mem_iff_getElem?.1 hx
  obtain ⟨k', hk', rfl⟩ := List.mem_map.1 hkm
  obtain ⟨e1, ⟨_, _, q, _⟩, _⟩ := (h.rowT hi).mem (fun k e g => g.1) k' hk'
  omega
end
def ndOf (x : Gn) : Nd := ⟨x.kind, 0, [], [], [], 0, 0, 0, 0, x.kids.map Int.toNat⟩
/-- A tree, and where each node's own ends. -/
structure GE (l : List Gn) (E : Nat → Nat) : Prop where
  pos : ∀ x ∈ l, ∀ k ∈ x.kids, 0 ≤ k
  ends : Ends' (l.map ndOf) E
theorem Ends'.like {l m : List Nd} {E : Nat → Nat} (h : Ends' l E) (hl : m.length = l.length) (hi : ∀ (i : Nat) (y : Nd), m[i]? = some y → ∃ x, l[i]? = some x ∧ x.kind = y.kind ∧ x.kids = y.kids) : Ends' m E := by
  refine ⟨by rw [hl]; exact h.root, fun i y hy => ?_⟩
  obtain ⟨x, hx, e1, e2⟩ := hi i y hy
  have := h.node i x hx
  rw [e1, e2] at this
  rw [hl]
  exact this
theorem toNat_cast (ks : List Nat) : (ks.map fun (k : Nat) => (k : Int)).map Int.toNat = ks := by
  rw [List.map_map]
  have : (Int.toNat ∘ fun (k : Nat) => (k : Int)) = id := by funext k; simp
  rw [this, List.map_id]
theorem cast_toNat {ks : List Int} (h : ∀ k ∈ ks, 0 ≤ k) : ((ks.map Int.toNat).map fun (k : Nat) => (k : Int)) = ks := by
  rw [List.map_map]
  refine (List.map_congr_left fun k hk => ?_).trans (List.map_id ks)
  have := h k hk
  simp only [Function.comp]
  exact Int.toNat_of_nonneg this
theorem Ends'.ge {l : List Nd} {E : Nat → Nat} (h : Ends' l E) : GE (l.map gn) E := by
  refine ⟨?_, ?_⟩
  · intro y hy k hk
    obtain ⟨x, _, rfl⟩ := List.mem_map.1 hy
    obtain ⟨k', _, rfl⟩ := List.mem_map.1 hk
    omega
  · refine h.like (by simp) fun i y hy => ?_
    rw [List.map_map, List.getElem?_map, Option.map_eq_some_iff] at hy
    obtain ⟨x, hx, rfl⟩ := hy
    exact ⟨x, hx, rfl, (toNat_cast x.kids).symm⟩
section
variable {l : List Gn} {E : Nat → Nat}
theorem GE.look (h : GE l E) {i : Nat} {x : Gn} (hx : l[i]? = some x) : (l.map ndOf)[i]? = some (ndOf x) := by rw [List.getElem?_map, hx]; rfl
theorem GE.kids (h : GE l E) {i : Nat} {x : Gn} (hx : l[i]? = some x) : x.kids = (x.kids.map Int.toNat).map fun (k : Nat) => (k : Int) := (cast_toNat (h.pos x (List.mem_of_getElem? hx))).symm
theorem gKids_nd (h : GE l E) (i : Nat) : gKids ((l.map ndOf).map gn) i = gKids l i := by
  cases hx : l[i]? with
  | none =>
    unfold gKids
    rw [List.getElem?_map, List.getElem?_map, hx]
    rfl
  | some x =>
    rw [gKids_tree (h.look hx), gKids_at hx]
    exact (h.kids hx).symm
theorem bhGo_nd (h : GE l E) : ∀ (n f i e : Nat), bhGo ((l.map ndOf).map gn) n f i e = bhGo l n f i e
  | n, 0, i, e => rfl
  | n, f + 1, i, e => by rw [bhGo, bhGo, gKids_nd h, bhGo_nd h n f]
theorem GE.behind (h : GE l E) {a : Nat} (ha : a < l.length) : bhGo l l.length (l.length - a) a (a + 1) = E a := by
  have := bh_tree h.ends (a := a) (by rw [List.length_map]; exact ha)
  rw [bhGo_nd h, List.length_map] at this
  exact this
theorem TRow.shift {n a i m : Nat} (hm : m ≤ n) : ∀ {ks : List Nat} {s e : Nat}, a ≤ i → i < s → e ≤ m → (∀ k, i < k → k < n → k < E k) → TRow (fun k e => i < k ∧ k < n ∧ e = E k) s ks e → TRow (fun k e => i - a < k ∧ k < m - a ∧ e = E (a + k) - a) (s - a) (ks.map (· - a)) (e - a)
  | [], s, e, _, _, _, _, g => by have : s = e := g; subst this; rfl
  | k :: ks, s, e, ha, hs, he, hE, ⟨g1, e1, ⟨q1, q2, q3⟩, g3⟩ => by
    subst g1 q3
    have h1 := hE k q1 q2
    have h2 : E k ≤ e := by
      have h3 : TRow (fun k e => k < e ∧ i < k ∧ k < n ∧ e = E k) (E k) ks e := g3.imp fun k e ⟨r1, r2, r3⟩ => ⟨by rw [r3]; exact hE k r1 r2, r1, r2, r3⟩
      exact h3.ge fun k e g => g.1
    refine ⟨rfl, E k - a, ⟨by show i - a < k - a; omega, by show k - a < m - a; omega, by show E k - a = E (a + (k - a)) - a; rw [show a + (k - a) = k by omega]⟩, ?_⟩
    exact TRow.shift hm ha (by omega) he hE g3
/-- The tree below a node. -/
theorem GE.sub (h : GE l E) {a : Nat} (ha : a < l.length) : GE (subF l (a : Int)) (fun i => E (a + i) - a) ∧ (subF l (a : Int)).length = E a - a ∧ E a ≤ l.length ∧ a < E a := by
  have hEa := h.ends.node a _ (h.look (List.getElem?_eq_getElem ha))
  rw [List.length_map] at hEa
  have hsub : subF l (a : Int) = ((l.take (E a)).drop a).map (Gn.mapK (· - (a : Int))) := by
    unfold subF
    rw [if_pos (by omega), Int.toNat_natCast, h.behind ha]
  have hlen : (subF l (a : Int)).length = E a - a := by
    rw [hsub, List.length_map, List.length_drop, List.length_take]
    omega
  have hat : ∀ (i : Nat) (y : Gn), (subF l (a : Int))[i]? = some y → a + i < E a ∧ ∃ x, l[a + i]? = some x ∧ y = x.mapK (· - (a : Int)) := by
    intro i y hy
    rw [hsub, List.getElem?_map, Option.map_eq_some_iff] at hy
    obtain ⟨x, hx, rfl⟩ := hy
    rw [List.getElem?_drop, List.getElem?_take] at hx
    split at hx
    · exact ⟨by assumption, x, hx, rfl⟩
    · cases hx
  have kid_ge : ∀ (i : Nat) (x : Gn), l[i]? = some x → ∀ k ∈ x.kids, (i : Int) < k := by
    intro i x hx k hk
    have hr := h.ends.rowT (h.look hx)
    have hk' : k.toNat ∈ (ndOf x).kids := List.mem_map.2 ⟨k, hk, rfl⟩
    obtain ⟨e1, ⟨_, q, _, _⟩, _⟩ := hr.mem (fun k e g => g.1) _ hk'
    have := h.pos x (List.mem_of_getElem? hx) k hk
    omega
  refine ⟨⟨?_, ?_, ?_⟩, hlen, hEa.2.1, hEa.1⟩
  · intro y hy k hk
    obtain ⟨i, hi⟩ := List.mem_iff_getElem?.1 hy
    obtain ⟨_, x, hx, rfl⟩ := hat i y hi
    obtain ⟨k', hk', rfl⟩ := List.mem_map.1 hk
    have := kid_ge _ x hx k' hk'
    show 0 ≤ k' - (a : Int)
    omega
  · show E (a + 0) - a = _
    rw [List.length_map, hlen, Nat.add_zero]
  · intro i z hz
    rw [List.getElem?_map, Option.map_eq_some_iff] at hz
    obtain ⟨y, hy, rfl⟩ := hz
    obtain ⟨hi, x, hx, rfl⟩ := hat i y hy
    obtain ⟨q1, q2, q3, q4⟩ := h.ends.node _ _ (h.look hx)
    rw [List.length_map] at q2 q4
    have hnest := h.ends.nest _ a (a + i) (Nat.le_refl _) (by omega) (by rw [List.length_map]; exact ha) hi
    rw [List.length_map, hlen]
    have hks : (ndOf (x.mapK (· - (a : Int)))).kids = (ndOf x).kids.map (· - a) := by
      show (x.kids.map (· - (a : Int))).map Int.toNat = (x.kids.map Int.toNat).map (· - a)
      rw [List.map_map, List.map_map]
      refine List.map_congr_left fun k hk => ?_
      simp only [Function.comp]
      have := kid_ge _ x hx k hk
      omega
    refine ⟨by omega, by omega, ?_, ?_⟩
    · rw [hks, List.length_map]
      rcases q3 with q | q | q
      · left; rw [q]; rfl
      · right; left; exact q
      · right; right; exact q
    · rw [hks]
      have := TRow.shift (E := E) (n := l.length) (a := a) (i := a + i) (m := E a) hEa.2.1 (by omega) (by omega) hnest (fun k _ h2 => (h.ends.node k _ (h.look (List.getElem?_eq_getElem h2))).1) q4
      rw [show a + i - a = i by omega, show a + i + 1 - a = i + 1 by omega] at this
      exact this
end
/-- A row's pieces by their numbers: each ends where the next one begins, the last one at the end. -/
theorem TRow.idx {E : Nat → Nat} {P : Nat → Prop} : ∀ {ks : List Nat} {s e : Nat}, TRow (fun k e => P k ∧ e = E k) s ks e → ∀ (j k : Nat), ks[j]? = some k → (∀ k', ks[j + 1]? = some k' → k' = E k) ∧ (ks.length = j + 1 → e = E k) ∧ P k
  | [], s, e, g, j, k, h => by simp at h
  | c :: ks, s, e, ⟨g1, e1, ⟨p1, g2⟩, g3⟩, 0, k, h => by
    simp only [List.getElem?_cons_zero, Option.some.injEq] at h
    subst h g2
    refine ⟨fun k' hk' => ?_, fun hl => ?_, p1⟩
    · rw [List.getElem?_cons_succ] at hk'
      cases ks with
      | nil => simp at hk'
      | cons d ks => simp only [List.getElem?_cons_zero, Option.some.injEq] at hk'; obtain ⟨q, _⟩ := g3; omega
    · have : ks = [] := List.eq_nil_of_length_eq_zero (by simpa using hl)
      subst this
      exact (show E c = e from g3).symm
  | c :: ks, s, e, ⟨g1, e1, g2, g3⟩, j + 1, k, h => by
    rw [List.getElem?_cons_succ] at h
    obtain ⟨q1, q2, q3⟩ := TRow.idx g3 j k h
    exact ⟨fun k' hk' => q1 k' (by rwa [List.getElem?_cons_succ] at hk'), fun hl => q2 (by simpa using hl), q3⟩
theorem TRow.first {T : Nat → Nat → Prop} {ks : List Nat} {s e k : Nat} (h : TRow T s ks e) (hk : ks[0]? = some k) : k = s := by
  cases ks with
  | nil => simp at hk
  | cons c ks => obtain ⟨g, _⟩ := h; simp only [List.getElem?_cons_zero, Option.some.injEq] at hk; omega
section
variable {l : List Gn} {E : Nat → Nat}
theorem GE.lt (h : GE l E) {i : Nat} (hi : i < l.length) : i < E i ∧ E i ≤ l.length := by
  obtain ⟨q1, q2, _⟩ := h.ends.node i _ (h.look (List.getElem?_eq_getElem hi))
  rw [List.length_map] at q2
  exact ⟨q1, q2⟩
theorem GE.row (h : GE l E) {i : Nat} {x : Gn} (hx : l[i]? = some x) : TRow (fun k e => (i < k ∧ k < l.length) ∧ e = E k) (i + 1) (x.kids.map Int.toNat) (E i) := by
  have := (h.ends.node i _ (h.look hx)).2.2.2
  rw [List.length_map] at this
  exact this.imp fun k e ⟨q1, q2, q3⟩ => ⟨⟨q1, q2⟩, q3⟩
theorem GE.kid_nat (h : GE l E) {i j : Nat} {x : Gn} (hx : l[i]? = some x) {k : Int} (hk : x.kids[j]? = some k) : (x.kids.map Int.toNat)[j]? = some k.toNat ∧ 0 ≤ k := by
  refine ⟨by rw [List.getElem?_map, hk]; rfl, h.pos x (List.mem_of_getElem? hx) k (List.mem_of_getElem? hk)⟩
/-- A Kid by its number: it lies in the list, and where its tree ends the next one begins. -/
theorem GE.kid (h : GE l E) {i j : Nat} {x : Gn} (hx : l[i]? = some x) {k : Int} (hk : x.kids[j]? = some k) :
    0 ≤ k ∧ i < k.toNat ∧ k.toNat < l.length ∧ (∀ k', x.kids[j + 1]? = some k' → k' = (E k.toNat : Int)) ∧ (x.kids.length = j + 1 → E i = E k.toNat) ∧ (j = 0 → k.toNat = i + 1) := by
  obtain ⟨q1, q2⟩ := h.kid_nat hx hk
  obtain ⟨r1, r2, r3⟩ := (h.row hx).idx j _ q1
  refine ⟨q2, r3.1, r3.2, fun k' hk' => ?_, fun hl => r2 (by rw [List.length_map]; exact hl), fun hj => by subst hj; exact (h.row hx).first q1⟩
  obtain ⟨s1, s2⟩ := h.kid_nat hx hk'
  have := r1 _ s1
  omega
theorem GE.kids_up (h : GE l E) {i : Nat} {x : Gn} (hx : l[i]? = some x) : ∀ (b a : Nat) (u v : Int), a ≤ b → x.kids[a]? = some u → x.kids[b]? = some v → u ≤ v
  | 0, a, u, v, hab, hu, hv => by
    obtain rfl : a = 0 := by omega
    rw [hu] at hv; injection hv with hv; omega
  | b + 1, a, u, v, hab, hu, hv => by
    by_cases e : a = b + 1
    · subst e; rw [hu] at hv; injection hv with hv; omega
    · have hb : b < x.kids.length := by have := (List.getElem?_eq_some_iff.1 hv).1; omega
      have hw := List.getElem?_eq_getElem hb
      have h1 := GE.kids_up h hx b a u _ (by omega) hu hw
      obtain ⟨q0, q1, q2, q3, _⟩ := h.kid hx hw
      have := q3 v hv
      have := (h.lt q2).1
      omega
theorem GE.last_le (h : GE l E) {i : Nat} {x : Gn} (hx : l[i]? = some x) : ∀ (n j : Nat) (k : Int), x.kids.length - j ≤ n → x.kids[j]? = some k → E k.toNat ≤ E i
  | 0, j, k, hn, hk => by have := (List.getElem?_eq_some_iff.1 hk).1; omega
  | n + 1, j, k, hn, hk => by
    have hj := (List.getElem?_eq_some_iff.1 hk).1
    obtain ⟨_, _, _, q3, q4, _⟩ := h.kid hx hk
    by_cases e : x.kids.length = j + 1
    · rw [q4 e]; exact Nat.le_refl _
    · have hk' := List.getElem?_eq_getElem (show j + 1 < x.kids.length by omega)
      have h1 := q3 _ hk'
      obtain ⟨_, _, r, _⟩ := h.kid hx hk'
      have h2 := GE.last_le h hx n (j + 1) _ (by omega) hk'
      have := (h.lt r).1
      omega
/-- One step of the way down: a lies below p; c of p's Kids are less than a. Either a is the next one, or a lies below the last of these. -/
theorem GE.down (h : GE l E) {p a c : Nat} {x : Gn} (hx : l[p]? = some x) (hpa : p < a) (haE : a < E p) (hc : c ≤ x.kids.length) (h1 : ∀ t k, t < c → x.kids[t]? = some k → k < (a : Int)) (h2 : ∀ t k, c ≤ t → x.kids[t]? = some k → (a : Int) ≤ k) (hne : x.kids[c]? ≠ some (a : Int)) :
    0 < c ∧ ∃ k : Nat, x.kids[c - 1]? = some (k : Int) ∧ p < k ∧ k < a ∧ k < l.length ∧ a < E k := by
  have hpl : p < l.length := (List.getElem?_eq_some_iff.1 hx).1
  have hk0 : x.kids.length ≠ 0 := by
    intro e
    have e2 : x.kids.map Int.toNat = [] := by rw [List.eq_nil_of_length_eq_zero e]; rfl
    have hr := h.row hx
    rw [e2] at hr
    have : p + 1 = E p := hr
    omega
  have hc0 : 0 < c := by
    rcases Nat.eq_zero_or_pos c with e | e
    · subst e
      have hk := List.getElem?_eq_getElem (show 0 < x.kids.length by omega)
      obtain ⟨q0, q1, q2, _, _, q5⟩ := h.kid hx hk
      have g1 := h2 0 _ (Nat.le_refl _) hk
      have g2 := q5 rfl
      exact absurd (by rw [hk]; congr 1; omega) hne
    · exact e
  refine ⟨hc0, ?_⟩
  have hk := List.getElem?_eq_getElem (show c - 1 < x.kids.length by omega)
  obtain ⟨q0, q1, q2, q3, q4, _⟩ := h.kid hx hk
  have g1 := h1 (c - 1) _ (by omega) hk
  refine ⟨x.kids[c - 1].toNat, by rw [hk]; congr 1; omega, q1, by omega, q2, ?_⟩
  by_cases e : x.kids.length = c
  · have := q4 (by omega)
    omega
  · have hk' := List.getElem?_eq_getElem (show c < x.kids.length by omega)
    have g2 := h2 c _ (Nat.le_refl _) hk'
    have g3 := q3 x.kids[c] (by rw [show c - 1 + 1 = c by omega]; exact hk')
    have g4 : x.kids[c] ≠ (a : Int) := fun e => hne (by rw [hk', e])
    omega
end
section
variable {l : List Gn} {E : Nat → Nat}
theorem GE.sub_eq (h : GE l E) {a : Nat} (ha : a < l.length) : subF l (a : Int) = ((l.take (E a)).drop a).map (Gn.mapK (· - (a : Int))) := by
  unfold subF
  rw [if_pos (by omega), Int.toNat_natCast, h.behind ha]
theorem GE.sub_at (h : GE l E) {a : Nat} (ha : a < l.length) (i : Nat) : (subF l (a : Int))[i]? = if a + i < E a then l[a + i]?.map (Gn.mapK (· - (a : Int))) else none := by
  rw [h.sub_eq ha, List.getElem?_map, List.getElem?_drop, List.getElem?_take]
  split
  · rfl
  · rfl
end
theorem TRow.map {T U : Nat → Nat → Prop} {f : Nat → Nat} : ∀ {ks : List Nat} {s e : Nat}, (∀ k e, k ∈ ks → T k e → U (f k) (f e)) → TRow T s ks e → TRow U (f s) (ks.map f) (f e)
  | [], s, e, _, g => by have : s = e := g; subst this; rfl
  | k :: ks, s, e, h, ⟨g1, e1, g2, g3⟩ => ⟨by rw [g1], f e1, h k e1 (by simp) g2, TRow.map (fun k e hk => h k e (List.mem_cons_of_mem _ hk)) g3⟩
section
variable {l m : List Gn} {E F : Nat → Nat}
/-- A node's Kids lie outside of the tree below another node behind it, but for that node itself. -/
theorem GE.apart (h : GE l E) {i a : Nat} {x : Gn} (hx : l[i]? = some x) (hia : i < a) (ha : a < l.length) {k : Int} (hk : k ∈ x.kids) : k.toNat ≤ a ∨ E a ≤ k.toNat := by
  obtain ⟨jk, hj⟩ := List.mem_iff_getElem?.1 hk
  obtain ⟨q0, q1, q2, _⟩ := h.kid hx hj
  have hlast := h.last_le hx _ jk k (Nat.le_refl _) hj
  have hlk := (h.lt q2).1
  by_cases hE : a < E i
  · have hr := h.row hx
    have hr2 : TRow (fun k e => k < e ∧ i < k ∧ k < l.length ∧ e = E k) (i + 1) (x.kids.map Int.toNat) (E i) := hr.imp fun k e ⟨⟨g1, g2⟩, g3⟩ => ⟨by rw [g3]; exact (h.lt g2).1, g1, g2, g3⟩
    obtain ⟨c, e1, c1, ⟨c2, c3, c4, c5⟩, c6, c7⟩ := hr2.hit (j := a) (by omega) hE
    subst c5
    obtain ⟨jc, hjc⟩ := List.mem_iff_getElem?.1 c1
    rw [List.getElem?_map, Option.map_eq_some_iff] at hjc
    obtain ⟨cc, hjc, rfl⟩ := hjc
    have hn := h.ends.nest _ cc.toNat a (Nat.le_refl _) c6 (by rw [List.length_map]; exact c4) c7
    by_cases hjj : jk ≤ jc
    · have := h.kids_up hx jc jk k cc hjj hj hjc
      omega
    · obtain ⟨d0, d1, d2, d3, _⟩ := h.kid hx hjc
      have hn1 : jc + 1 < x.kids.length := by have := (List.getElem?_eq_some_iff.1 hj).1; omega
      have hk1 := List.getElem?_eq_getElem hn1
      have g1 := d3 _ hk1
      have g2 := h.kids_up hx jk (jc + 1) _ k (by omega) hk1 hj
      omega
  · omega
end
theorem GNds.kid_lt {B : Nat} {U : World} {v : Value} {P : List GK} (h : GNds B U v P) : ∀ (i : Nat) (p : GK) (k : Nat), P[i]? = some p → p.2.ownBlock = some k → k < U.heap.size := fun i p k hp hk => own_lt (h.kid i p hp) k hk
section
variable {l : List Gn} {E : Nat → Nat}
theorem GE.kid_ge (h : GE l E) {i : Nat} {x : Gn} (hx : l[i]? = some x) : ∀ (j : Nat) (k : Int), x.kids[j]? = some k → ((i + 1 + j : Nat) : Int) ≤ k
  | 0, k, hk => by
    obtain ⟨q0, q1, _⟩ := h.kid hx hk
    omega
  | j + 1, k, hk => by
    have hj : j < x.kids.length := by have := (List.getElem?_eq_some_iff.1 hk).1; omega
    have hk0 := List.getElem?_eq_getElem hj
    have h1 := GE.kid_ge h hx j _ hk0
    obtain ⟨q0, q1, q2, q3, _⟩ := h.kid hx hk0
    have h2 := q3 k hk
    have h3 := (h.lt q2).1
    omega
theorem GE.small (h : GE l E) (hn : l.length ≤ 1000000) : Small l := by
  intro x hx
  obtain ⟨i, hi⟩ := List.mem_iff_getElem?.1 hx
  constructor
  · rcases Nat.eq_zero_or_pos x.kids.length with e | e
    · omega
    · have hk := List.getElem?_eq_getElem (show x.kids.length - 1 < x.kids.length by omega)
      have h1 := h.kid_ge hi _ _ hk
      obtain ⟨q0, q1, q2, _⟩ := h.kid hi hk
      omega
  · intro k hk
    obtain ⟨j, hj⟩ := List.mem_iff_getElem?.1 hk
    obtain ⟨q0, q1, q2, _⟩ := h.kid hi hj
    omega
end
theorem NewG.out {W w' : World} {l : List Gn} {e : Ending} (h : NewG W l e w') : ∃ A cap, e = .returned (.slice A l.length cap) ∧ l.length ≤ cap ∧ cap ≤ 9223372036854775807 ∧ GL w' A l.length cap l ∧ Below W.heap.size W w' := by
  obtain ⟨A, m, cap, P, rfl, h1, h2, h3, h4, h5, h6⟩ := h
  have hg := h3.gl h4
  rw [h5] at hg
  have hl := hg.len
  subst hl
  exact ⟨A, cap, rfl, h1, h2, hg, h6⟩
/-- A tree that was made: a list in memory. -/
structure TreeIn (W : World) (A : Option Addr) (n cap : Nat) (l : List Gn) (E : Nat → Nat) : Prop where
  gl : GL W A n cap l
  ge : GE l E
theorem TreeIn.below {W W' : World} {A : Option Addr} {n cap : Nat} {l : List Gn} {E : Nat → Nat} (h : TreeIn W A n cap l E) (hb : Below W.heap.size W W') : TreeIn W' A n cap l E := ⟨h.gl.below hb, h.ge⟩
theorem TreeIn.sm {W : World} {A : Option Addr} {n cap : Nat} {l : List Gn} {E : Nat → Nat} (h : TreeIn W A n cap l E) (hn : n ≤ 1000000) : Small l := h.ge.small (by rw [h.gl.len]; exact hn)
theorem TreeIn.kl {W : World} {A : Option Addr} {n cap : Nat} {l : List Gn} {E : Nat → Nat} (h : TreeIn W A n cap l E) (hn : n ≤ 1000000) : ∀ x ∈ l, x.kids.length ≤ 1000000 := fun x hx => (h.sm hn x hx).1
def dLv (kd v : Int) : Int := if (kd == 2 || kd == 3) = true then v + 1 else v
def dKids (n i : Nat) (lv : Int) : List Int → List Int → List Int
  | [], L => L
  | k :: ks, L => dKids n i lv ks (if (i : Int) < k ∧ k < (n : Int) then L.set k.toNat lv else L)
def dGo (l : List Gn) : Nat → Nat → List Int → Int → Int
  | 0, _, _, d => d
  | f + 1, i, L, d => match l[i]?, L[i]? with
    | some x, some v => dGo l f (i + 1) (dKids l.length i (dLv x.kind v) x.kids (L.set i (dLv x.kind v))) (max d (dLv x.kind v))
    | _, _ => d
def depthF (l : List Gn) : Int := dGo l l.length 0 (List.replicate l.length 0) 0
theorem dGo_step {l : List Gn} {n t : Nat} {L : List Int} {d v : Int} {x : Gn} (hn : l.length = n) (ht : t < n) (hx : l[t]? = some x) (hv : L[t]? = some v) :
    dGo l (n - t) t L d = dGo l (n - (t + 1)) (t + 1) (dKids n t (dLv x.kind v) x.kids (L.set t (dLv x.kind v))) (max d (dLv x.kind v)) := by
  rw [show n - t = (n - (t + 1)) + 1 by omega, dGo, hx, hv]
  simp only [hn]
theorem dKids_step {n t : Nat} {lv k : Int} {ks L : List Int} {j : Nat} (h : ks[j]? = some k) : dKids n t lv (ks.drop j) L = dKids n t lv (ks.drop (j + 1)) (if (t : Int) < k ∧ k < (n : Int) then L.set k.toNat lv else L) := by
  have hj := (List.getElem?_eq_some_iff.1 h).1
  rw [List.drop_eq_getElem_cons hj, dKids]
  have : ks[j] = k := by rw [List.getElem?_eq_getElem hj] at h; injection h
  rw [this]
theorem cell_heap {V U : World} {g k : Nat} (h : U.heap[g]? = V.heap[g]?) : U.cell? ⟨g, k, none⟩ = V.cell? ⟨g, k, none⟩ := by simp [World.cell?, h]
set_option maxHeartbeats 16000000 in
theorem tdepth_at {W : World} {A : Option Addr} {n cap : Nat} {l : List Gn} (hL : GL W A n cap l) (hS : Small l) (hn : n ≤ 1000000) :
    Calls Try.prog 14 #[.slice A n cap] W fun e w' => e = .returned (.int .i64 (depthF l)) ∧ Below W.heap.size W w' := by
  have hle := hL.le
  have hmx := hL.max
  obtain ⟨W1, hW1⟩ : ∃ z, W.alloc (.cells ((List.replicate n (0 : Int)).map (Value.int .i64)).toArray 3) = z := ⟨_, rfl⟩
  obtain ⟨b, hb⟩ : ∃ z, W.heap.size = z := ⟨_, rfl⟩
  have hmk := run_make_ints n hn W
  rw [hW1, hb] at hmk
  have hbx : IntBox W1 b (List.replicate n 0) := by unfold IntBox; rw [← hW1, ← hb]; exact heap_alloc_new W _
  have hb1 : Below W.heap.size W W1 := by rw [← hW1]; exact (Below.refl _ _).alloc (Nat.le_refl _) _
  obtain ⟨R, hR⟩ : ∃ z, depthF l = z := ⟨_, rfl⟩
  rw [hR]
  unfold depthF at hR
  rw [hL.len] at hR
  have HL := Lib.hid hL
  have HS := Lib.hid hS
  have HR := Lib.hid hR
  have HBX := Lib.hid hbx
  have HB1 := Lib.hid hb1
  have HB := Lib.hid hb
  clear hL hS hbx hb1 hb hW1 hR
  go_enter Try.func14, Try.ntmps14
  go_wp2_with fail
  clear hmk
  go_loopw [3, 14] (fun u i V => ∃ (t : Nat) (d : Int) (es : List Int), t ≤ n ∧ u = .int .i64 d ∧ i = .int .i64 (t : Int) ∧ 0 ≤ d ∧ d ≤ 1000000 ∧ Hid (IntBox V b es ∧ es.length = n ∧ (∀ v ∈ es, 0 ≤ v ∧ v ≤ (t : Int)) ∧ d ≤ (t : Int) ∧ dGo l (n - t) t es d = R ∧ Below W.heap.size W V)) (fun _ i _ => n - (intOf i).toNat)
  case atStart => exact ⟨0, 0, _, Nat.zero_le _, rfl, rfl, Int.le_refl _, by omega, HBX.out, by simp, fun v hv => by rw [(List.mem_replicate.1 hv).2]; omega, by omega, by rw [Nat.sub_zero]; exact HR.out, HB1.out⟩
  case round =>
    obtain ⟨t, d, es, ht, rfl, rfl, hd0, hd1, HQ⟩ := hrel
    obtain ⟨V, hV⟩ : ∃ z, z = wr := ⟨_, rfl⟩
    subst hV
    by_cases hlt : t < n
    · have dt : (t : Int) < (n : Int) := by omega
      obtain ⟨x, hx⟩ : ∃ x, l[t]? = some x := ⟨l[t]'(by rw [HL.out.len]; omega), List.getElem?_eq_getElem _⟩
      obtain ⟨v0, hv0⟩ : ∃ v, es[t]? = some v := ⟨es[t]'(by rw [HQ.out.2.1]; omega), List.getElem?_eq_getElem _⟩
      obtain ⟨e1, e2⟩ := HQ.out.2.2.1 v0 (List.mem_of_getElem? hv0)
      obtain ⟨g, o, rfl, K, c, k1, k2, k3, hkr, hcW⟩ := HL.out.at_ t x hx
      have hc := fun j u hu => cell_keep HQ.out.2.2.2.2.2 (hcW j u hu)
      clear hcW
      have hst := dGo_step (d := d) HL.out.len hlt hx hv0
      rw [HQ.out.2.2.2.2.1] at hst
      obtain ⟨s1, s2⟩ := HS.out x (List.mem_of_getElem? hx)
      obtain ⟨kd, hkd⟩ : ∃ z, x.kind = z := ⟨_, rfl⟩
      obtain ⟨ks, hks⟩ : ∃ z, x.kids = z := ⟨_, rfl⟩
      obtain ⟨kl, hkl⟩ : ∃ z, ks.length = z := ⟨_, rfl⟩
      rw [hkd, hks] at hst
      rw [hks] at hkr s1 s2 k1 hc
      rw [hkl] at s1 k1 hc
      have y0 := hc 0 _ rfl
      have y1 := hc 1 _ rfl
      have y2 := hc 2 _ rfl
      have y3 := hc 3 _ rfl
      have y4 := hc 4 _ rfl
      have y5 := hc 5 _ rfl
      have y6 := hc 6 _ rfl
      have y7 := hc 7 _ rfl
      have y8 := hc 8 _ rfl
      have y9 := hc 9 _ rfl
      rw [hkd] at y0
      simp only [Nat.add_zero] at y0
      have hbV : b < V.heap.size := (Array.getElem?_eq_some_iff.1 HQ.out.1).1
      have HBV := Lib.hid hbV
      have HX := Lib.hid (And.intro hst (And.intro s2 (And.intro hkr (And.intro hkl hv0))))
      clear hc hx hst s2 hkr hks hkl hkd hbV k3 hv0
      go_upto_region 6 with fail
      obtain ⟨V1, hV1⟩ : ∃ z, V.alloc (.cells #[.int .i64 kd, .int .i64 x.style, .string x.tag, .string x.anchor, .string x.value, .int .i64 x.st, .int .i64 x.en, .int .i64 x.hd, .int .i64 x.mr, .slice K kl c] 41) = z := ⟨_, rfl⟩
      obtain ⟨gx, hgx⟩ : ∃ z, V.heap.size = z := ⟨_, rfl⟩
      have hb1 : Below V.heap.size V V1 := by rw [← hV1]; exact (Below.refl _ _).alloc (Nat.le_refl _) _
      have xb : ∀ (j : Nat) (u : Value), #[Value.int .i64 kd, .int .i64 x.style, .string x.tag, .string x.anchor, .string x.value, .int .i64 x.st, .int .i64 x.en, .int .i64 x.hd, .int .i64 x.mr, .slice K kl c][j]? = some u → V1.cell? ⟨gx, j, none⟩ = some u := fun j u hu => by rw [← hV1, ← hgx, World.cell?_alloc_mark]; exact hu
      rw [hV1, hgx]
      have HBN : Hid (b < gx) := by have := HBV.out; rw [hgx] at this; exact this
      have HV1 := Lib.hid hb1
      clear hV1 hgx hb1 y0 y1 y2 y3 y4 y5 y6 y7 y8 y9
      have z0 := xb 0 _ rfl
      have z1 := xb 1 _ rfl
      have z2 := xb 2 _ rfl
      have z3 := xb 3 _ rfl
      have z4 := xb 4 _ rfl
      have z5 := xb 5 _ rfl
      have z6 := xb 6 _ rfl
      have z7 := xb 7 _ rfl
      have z8 := xb 8 _ rfl
      have z9 := xb 9 _ rfl
      clear xb
      have HW1 := Lib.hid (below_step HQ.out.2.2.2.2.2 HV1.out)
      have hbx1 := HQ.out.1.below HV1.out
      obtain ⟨lv, hlv⟩ : ∃ z, dLv kd v0 = z := ⟨_, rfl⟩
      have hlv2 : 0 ≤ lv ∧ lv ≤ (t : Int) + 1 := by rw [← hlv]; unfold dLv; split <;> omega
      go_wp2_with fail
      refine (coll_at V1 kd _ _ _ _ _ _ _ _ _).mono ?_
      rintro e U ⟨rfl, hbU⟩
      have hbx2 := hbx1.below hbU
      have z9' := cell_keep hbU z9
      have ct := hbx2.cell t _ HX.out.2.2.2.2
      have ft := hbx2.frozen t
      have HU := Lib.hid (below_step HW1.out hbU)
      have HBX2 := Lib.hid hbx2
      have HZ9 := Lib.hid z9'
      have hes : es.length = n := HQ.out.2.1
      have HES := Lib.hid hes
      have HLV := Lib.hid hlv
      have hlv0 := hlv2.1
      have hlv1 := hlv2.2
      clear hbU z0 z1 z2 z3 z4 z5 z6 z7 z8 z9 z9' hbx1 hbx2 hes hlv hlv2
      by_cases hcl : (kd == 2 || kd == 3) = true
      case' pos =>
        have hl : v0 + 1 = lv := by have := HLV.out; unfold dLv at this; rw [if_pos hcl] at this; exact this
        have HN : Hid (IntBox (U.setCell ⟨b, t, none⟩ (.int .i64 lv)) b (es.set t lv) ∧ Below W.heap.size W (U.setCell ⟨b, t, none⟩ (.int .i64 lv)) ∧ (U.setCell ⟨b, t, none⟩ (.int .i64 lv)).cell? ⟨gx, 9, none⟩ = some (.slice K kl c)) := by
          refine ⟨HBX2.out.set t _, HU.out.setCell (p := ⟨b, t, none⟩) (by rw [HB.out]; exact Nat.le_refl _) _, ?_⟩
          rw [cell_heap (V := U) (Below.heap_setCell _ _ _ _ (by have := HBN.out; show gx ≠ b; omega))]
          exact HZ9.out
        rw [hcl]
        go_upto_region 8 with fail
        obtain ⟨V2, hV2⟩ : ∃ z, U.setCell ⟨b, t, none⟩ (.int .i64 lv) = z := ⟨_, rfl⟩
        rw [hV2] at HN ⊢
        clear hV2 hl ct ft
      case' neg =>
        have hcf : (kd == 2 || kd == 3) = false := by simpa using hcl
        have hl : lv = v0 := by have := HLV.out; unfold dLv at this; rw [if_neg hcl] at this; exact this.symm
        have HN : Hid (IntBox U b (es.set t lv) ∧ Below W.heap.size W U ∧ U.cell? ⟨gx, 9, none⟩ = some (.slice K kl c)) := by
          refine ⟨?_, HU.out, HZ9.out⟩
          have hv := HX.out.2.2.2.2
          rw [← hl] at hv
          have hti := (List.getElem?_eq_some_iff.1 hv).1
          have : es[t] = lv := by rw [List.getElem?_eq_getElem hti] at hv; injection hv
          rw [← this, List.set_getElem_self]
          exact HBX2.out
        rw [hcf]
        go_upto_region 8 with fail
        clear hl hcf ct ft
        obtain ⟨V2, hV2⟩ : ∃ z, z = U := ⟨_, rfl⟩
        subst hV2
      all_goals by_cases hdl : d < lv
      all_goals
        have ctt : V2.cell? ⟨b, t, none⟩ = some (.int .i64 lv) := HN.out.1.cell t _ (List.getElem?_set_self (by rw [HES.out]; exact hlt))
        have zk := HN.out.2.2
        clear hcl
        go_wp2_with fail
        go_loopw [36] (fun q V3 => ∃ (j : Nat) (es2 : List Int), j ≤ kl ∧ q = .int .i64 (j : Int) ∧ Hid (IntBox V3 b es2 ∧ es2.length = n ∧ (∀ v ∈ es2, 0 ≤ v ∧ v ≤ (t : Int) + 1) ∧ es2[t]? = some lv ∧ dKids n t lv (ks.drop j) es2 = dKids n t lv ks (es.set t lv) ∧ Below W.heap.size W V3)) (fun q _ => kl - (intOf q).toNat)
        case atStart =>
          refine ⟨0, _, Nat.zero_le _, rfl, HN.out.1, by rw [List.length_set]; exact HES.out, fun v hv => ?_, List.getElem?_set_self (by rw [HES.out]; exact hlt), rfl, HN.out.2.1⟩
          rcases List.mem_or_eq_of_mem_set hv with hv | rfl
          · have := HQ.out.2.2.1 v hv; omega
          · omega
        case round =>
          obtain ⟨j, es2, hj, rfl, HJ⟩ := hrel
          obtain ⟨V3, hV3⟩ : ∃ z, z = wr := ⟨_, rfl⟩
          subst hV3
          by_cases hjl : j < kl
          · have dj : (j : Int) < (kl : Int) := by omega
            have hkl := HX.out.2.2.2.1
            obtain ⟨k, hk⟩ : ∃ z, ks[j]? = some z := ⟨ks[j]'(by omega), List.getElem?_eq_getElem _⟩
            have hds := dKids_step (n := n) (t := t) (lv := lv) (L := es2) hk
            rw [HJ.out.2.2.2.2.1] at hds
            obtain ⟨bk, ok, rfl, hkc⟩ := (HX.out.2.2.1.below HJ.out.2.2.2.2.2).addr (by rw [ki_len, hkl]; omega)
            have ckk : V3.cell? ⟨bk, ok + j, none⟩ = some (.int .i64 k) := hkc j _ (ki_at hk)
            clear hkc
            by_cases h1 : (t : Int) < k
            · obtain ⟨k0, rfl⟩ : ∃ k0 : Nat, k = (k0 : Int) := ⟨k.toNat, by omega⟩
              have CW := Lib.hid (within_at V3 (some ⟨g, o, none⟩) n cap hle hmx (k0 : Int))
              have d1 : decide ((0 : Int) ≤ (k0 : Int)) = true := decide_eq_true (by omega)
              by_cases h2 : (k0 : Int) < (n : Int)
              · have d2 : decide ((k0 : Int) < (n : Int)) = true := decide_eq_true h2
                rw [d1, d2] at CW
                rw [if_pos ⟨h1, h2⟩, Int.toNat_natCast] at hds
                have h0n : k0 < n := by omega
                obtain ⟨v3, hv3⟩ : ∃ v, es2[k0]? = some v := ⟨es2[k0]'(by rw [HJ.out.2.1]; exact h0n), List.getElem?_eq_getElem _⟩
                have c3 := HJ.out.1.cell k0 _ hv3
                have f3 := HJ.out.1.frozen k0
                have ct3 := HJ.out.1.cell t _ HJ.out.2.2.2.1
                have htk : t ≠ k0 := by omega
                have HN3 : Hid (IntBox (V3.setCell ⟨b, k0, none⟩ (.int .i64 lv)) b (es2.set k0 lv) ∧ (es2.set k0 lv).length = n ∧ (∀ v ∈ es2.set k0 lv, 0 ≤ v ∧ v ≤ (t : Int) + 1) ∧ (es2.set k0 lv)[t]? = some lv ∧ dKids n t lv (ks.drop (j + 1)) (es2.set k0 lv) = dKids n t lv ks (es.set t lv) ∧ Below W.heap.size W (V3.setCell ⟨b, k0, none⟩ (.int .i64 lv))) := by
                  refine ⟨HJ.out.1.set k0 _, by rw [List.length_set]; exact HJ.out.2.1, fun v hv => ?_, ?_, hds.symm, HJ.out.2.2.2.2.2.setCell (p := ⟨b, k0, none⟩) (by rw [HB.out]; exact Nat.le_refl _) _⟩
                  · rcases List.mem_or_eq_of_mem_set hv with hv | rfl
                    · exact HJ.out.2.2.1 v hv
                    · exact ⟨hlv0, hlv1⟩
                  · rw [List.getElem?_set_ne (fun e => htk e.symm)]; exact HJ.out.2.2.2.1
                clear hds hv3 hk d1 d2 hkl
                go_wp2_with fail
                refine CW.out.mono ?_
                clear CW
                rintro e w3 ⟨rfl, rfl⟩
                go_wp2_with fail
                go_roundw
                case rel => exact ⟨j + 1, _, by omega, by go_num, HN3.out⟩
                case measure => simp [intOf]; omega
              · have d2 : decide ((k0 : Int) < (n : Int)) = false := decide_eq_false h2
                rw [d1, d2] at CW
                rw [if_neg (fun e => h2 e.2)] at hds
                have HN3 : Hid (IntBox V3 b es2 ∧ es2.length = n ∧ (∀ v ∈ es2, 0 ≤ v ∧ v ≤ (t : Int) + 1) ∧ es2[t]? = some lv ∧ dKids n t lv (ks.drop (j + 1)) es2 = dKids n t lv ks (es.set t lv) ∧ Below W.heap.size W V3) :=
                  ⟨HJ.out.1, HJ.out.2.1, HJ.out.2.2.1, HJ.out.2.2.2.1, hds.symm, HJ.out.2.2.2.2.2⟩
                clear hds hk d1 d2 hkl
                go_wp2_with fail
                refine CW.out.mono ?_
                clear CW
                rintro e w3 ⟨rfl, rfl⟩
                go_wp2_with fail
                go_roundw
                case rel => exact ⟨j + 1, _, by omega, by go_num, HN3.out⟩
                case measure => simp [intOf]; omega
            · rw [if_neg (fun e => h1 e.1)] at hds
              have HN3 : Hid (IntBox V3 b es2 ∧ es2.length = n ∧ (∀ v ∈ es2, 0 ≤ v ∧ v ≤ (t : Int) + 1) ∧ es2[t]? = some lv ∧ dKids n t lv (ks.drop (j + 1)) es2 = dKids n t lv ks (es.set t lv) ∧ Below W.heap.size W V3) :=
                ⟨HJ.out.1, HJ.out.2.1, HJ.out.2.2.1, HJ.out.2.2.2.1, hds.symm, HJ.out.2.2.2.2.2⟩
              clear hds hk hkl
              go_wp2_with fail
              go_roundw
              case rel => exact ⟨j + 1, _, by omega, by go_num, HN3.out⟩
              case measure => simp [intOf]; omega
          · obtain rfl : j = kl := by omega
            have hD : es2 = dKids n t lv ks (es.set t lv) := by
              have := HJ.out.2.2.2.2.1
              rw [List.drop_eq_nil_of_le (by rw [HX.out.2.2.2.1]; exact Nat.le_refl _)] at this
              exact this
            have HN2 : Hid (∃ d2 : Int, max d lv = d2 ∧ 0 ≤ d2 ∧ d2 ≤ 1000000 ∧ IntBox V3 b es2 ∧ es2.length = n ∧ (∀ v ∈ es2, 0 ≤ v ∧ v ≤ ((t + 1 : Nat) : Int)) ∧ d2 ≤ ((t + 1 : Nat) : Int) ∧ dGo l (n - (t + 1)) (t + 1) es2 d2 = R ∧ Below W.heap.size W V3) := by
              refine ⟨_, rfl, by omega, by omega, HJ.out.1, HJ.out.2.1, fun v hv => by have := HJ.out.2.2.1 v hv; omega, by have := HQ.out.2.2.2.1; omega, ?_, HJ.out.2.2.2.2.2⟩
              have h := HX.out.1
              rw [HLV.out, ← hD] at h
              exact h.symm
            clear hD
            go_wp2_with fail
            obtain ⟨d2, r1, r2, r3, r4⟩ := HN2.out
            have hdd : (if d < lv then lv else d) = d2 := by rw [← r1]; split <;> omega
            first
            | exact ⟨⟨t + 1, d2, es2, by omega, by first | rfl | (congr 1; omega), by go_num, r2, r3, r4⟩, by simp [intOf]; omega⟩
            | (repeat apply Exists.intro
               exact ⟨⟨t + 1, d2, es2, by omega, by first | rfl | (congr 1; omega), by go_num, r2, r3, r4⟩, by simp [intOf]; omega⟩)
    · obtain rfl : t = n := by omega
      have hq : d = R := by have := HQ.out.2.2.2.2.1; rw [Nat.sub_self] at this; exact this
      subst hq
      go_wp2_with fail
      go_ret
      exact ⟨rfl, HQ.out.2.2.2.2.2⟩
section
variable {l : List Gn} {E : Nat → Nat}
end
/-- Of each node how many collections stand around it, and it, if it is one. -/
structure Lev (l : List Gn) (v : Nat → Int) : Prop where
  root : ∀ x, l[0]? = some x → v 0 = dLv x.kind 0
  kid : ∀ (i : Nat) (x : Gn), l[i]? = some x → ∀ k ∈ x.kids, ∀ y, l[k.toNat]? = some y → v k.toNat = dLv y.kind (v i)
section
variable {l : List Gn} {E : Nat → Nat} {v : Nat → Int}
end
section
variable {l m : List Gn} {E F : Nat → Nat}
end
/-- A cell of a node, other than its Kids, stored. -/
theorem GNds.set {B : Nat} {W : World} {g cap : Nat} {P : List GK} (h : GNds B W (.slice (some ⟨g, 0, none⟩) P.length cap) P) {i : Nat} {p p' : GK} (hp : P[i]? = some p) (j : Nat) (hj : j < 10) (u : Value) (hc : gkC p' = (gkC p).set j u) (h2 : p'.2 = p.2) (h3 : p'.1.kids = p.1.kids) :
    GNds B (W.setCell ⟨g, i * 10 + j, none⟩ u) (.slice (some ⟨g, 0, none⟩) (P.set i p').length cap) (P.set i p') := by
  have hg := grown_store W g (i * 10 + j) u
  have hi := (List.getElem?_eq_some_iff.1 hp).1
  have look : ∀ (q : Nat) (y : GK), (P.set i p')[q]? = some y → ∃ x, P[q]? = some x ∧ y.2 = x.2 ∧ y.1.kids = x.1.kids := by
    intro q y hy
    rcases gset_look hp hy with ⟨rfl, rfl⟩ | ⟨_, hy⟩
    · exact ⟨p, hp, h2, h3⟩
    · exact ⟨y, hy, rfl, rfl⟩
  refine ⟨?_, ?_, ?_, ?_⟩
  · rw [List.length_set, ← gksC_set P i j p p' u hp hj hc]
    exact (h.row.stored _ u).1
  · intro q y hy
    obtain ⟨x, hx, e1, e2⟩ := look q y hy
    rw [e1, e2]
    exact own_kept (h.kid q x hx) hg (fun k hk hx2 => by
      injection hk with hk
      subst hk
      exact h.off q x _ hx hx2 rfl)
  · intro q r y z k hy hz hne hk
    obtain ⟨x, hx, e1, _⟩ := look q y hy
    obtain ⟨x', hx', e1', _⟩ := look r z hz
    rw [e1] at hk
    rw [e1']
    exact h.apart q r x x' k hx hx' hne hk
  · intro q y k hy hk
    obtain ⟨x, hx, e1, _⟩ := look q y hy
    rw [e1] at hk
    exact h.off q x k hx hk
theorem mapK_id (x : Gn) : x.mapK (fun k => k) = x := by
  unfold Gn.mapK
  rw [List.map_id']
end Go.Proofs.Ytcddlconcngjlaa
