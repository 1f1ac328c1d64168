/- A list of nodes of our own in memory, without a reader: a Kid more, a node more, another list behind it. · What the document's reader of a line answers, as the plain functions have it. No program. · The document's Move: a list of nodes in new memory, its Kids by so many more. · The document's blanks, and its key of a flow mapping. · The document's key at a line's end; at any place. · What the document's readers of a flow sequence, and of a flow mapping, rest on. · A list of one node, built within a drawn region. · What stands behind a node's props is bytes, and not too long. No program. · The document's reader of a node on a line: what stands ahead of it is none; an alias. · The document's reader of a node on a line: a scalar in double quotes. · The document's reader of a node on a line: a scalar in single quotes. · The document's reader of a flow sequence. · The document's reader of a node on a line: a sequence. -/
import Derived.Test.YtcddlconcngjlaaQG
import Derived.Test.YtcddlconcngjlaaQA
import Derived.Test.YtcddlconcngjlaaQC
import Derived.Test.YtcddlconcngjlaaQF
import Derived.Test.YtcddlconcngjlaaQB
import Derived.StillTailTactics
import Derived.BigQuiet
import Derived.Deep.LoopGhost
import Derived.Test.YtcddlconcngjlaaQE
import Derived.Deep.CutRange
import Derived.Deep.DeepCutAuto
set_option linter.unusedSimpArgs false
set_option linter.unusedVariables false
namespace Go.Proofs.Ytcddlconcngjlaa
open Go.RowKit
set_option linter.unusedVariables false
set_option maxRecDepth 100000
/-- A node without Kids is a list. -/
theorem Nds.one {B : Nat} (W : World) (hB : B ≤ W.heap.size) (x : Nd) (hx : x.kids = []) : Nds B (W.alloc (.cells (ndC (x, .slice none 0 0)).toArray 41)) (.slice (some ⟨W.heap.size, 0, none⟩) 1 1) [(x, .slice none 0 0)] := by
  refine ⟨⟨?_, .inr ⟨W.heap.size, 1, _, rfl, hB, heap_alloc_new W _, Nat.le_refl _, by unfold maxLen; omega, ?_, ?_⟩⟩, ?_, ?_, ?_⟩
  · simp [ndsC, ndC]
  · simp [ndsC, ndC]
  · simp [ndsC, ndC]
  · intro i p hp
    match i, hp with
    | 0, hp =>
      simp at hp; subst hp
      rw [hx]; exact own_nil _ B 1 _
    | i + 1, hp => simp at hp
  · intro i j p q k hp hq hne hk
    match i, hp with
    | 0, hp => simp at hp; subst hp; cases hk
    | i + 1, hp => simp at hp
  · intro i p k hp hk
    match i, hp with
    | 0, hp => simp at hp; subst hp; cases hk
    | i + 1, hp => simp at hp
section
variable {B : Nat} {W : World} {P : List NK} {g cap : Nat}
/-- A Kid more of node i. -/
theorem Nds.kidMore (h : Nds B W (.slice (some ⟨g, 0, none⟩) P.length cap) P) (hB : B ≤ W.heap.size) {i : Nat} {p : NK} (hp : P[i]? = some p) (hk : p.1.kids.length ≤ 400000) (z : Nat) :
    ∃ k' w', (Builtin.append_ #[22, 22] 22 #[p.2, .slice (some ⟨W.heap.size, 0, none⟩) 1 1]).run Try.prog (W.alloc (.cells #[.int .i64 (z : Int)] 3)) = .ok k' w' ∧
    w'.cell? ⟨g, i * 10 + 9, none⟩ = some p.2 ∧ w'.frozen? ⟨g, i * 10 + 9, none⟩ = false ∧ (∃ A' cap', k' = .slice A' (p.1.kids.length + 1) cap') ∧ Below B W (w'.setCell ⟨g, i * 10 + 9, none⟩ k') ∧
    Nds B (w'.setCell ⟨g, i * 10 + 9, none⟩ k') (.slice (some ⟨g, 0, none⟩) (P.set i ({ p.1 with kids := p.1.kids ++ [z] }, k')).length cap) (P.set i ({ p.1 with kids := p.1.kids ++ [z] }, k')) ∧
    ∀ (B2 : Nat) (v2 : Value) (Q : List NK), Nds B2 W v2 Q → g < B2 → (∀ k, p.2.ownBlock = some k → k < B2) → Nds B2 (w'.setCell ⟨g, i * 10 + 9, none⟩ k') v2 Q := by
  obtain ⟨W1, hW1⟩ : ∃ W1, W.alloc (.cells #[.int .i64 (z : Int)] 3) = W1 := ⟨_, rfl⟩
  have hb1 : Below W.heap.size W W1 := by rw [← hW1]; exact (Below.refl _ _).alloc (Nat.le_refl _) _
  have h1 := h.below hb1
  have hs1 : W.heap.size < W1.heap.size := by rw [← hW1]; simp
  have hB1 : B ≤ W1.heap.size := by omega
  have hrd : RdC W1 (some ⟨W.heap.size, 0, none⟩) [.int .i64 (z : Int)] := by
    rw [← hW1]
    refine RdC.new rfl fun k u hk => ?_
    rw [← hk, List.getElem?_toArray]
  obtain ⟨k', w', hrun, hown, hg, hv⟩ := run_append_rows Try.underlying22 int_info rfl (by omega) (by omega) W1 B p.2 p.1.kids.length (kidC p.1.kids) (h1.kid i p hp) hB1 (some ⟨W.heap.size, 0, none⟩) 1 1 [.int .i64 (z : Int)] rfl hrd
    (by intro u hu; simp at hu; subst hu; rfl) (by omega)
  rw [hW1]
  have hkg : ∀ k, p.2.ownBlock = some k → k ≠ g := fun k hk e => h1.off i p k hp hk (by rw [e]; rfl)
  have hgl : g < W1.heap.size := (h1.blockB (k := g) rfl).2
  have hgB : B ≤ g := (h1.blockB (k := g) rfl).1
  have hG : w'.heap[g]? = W1.heap[g]? := hg.block g hgl (fun e => hkg g e.symm rfl)
  have k'g : k'.ownBlock ≠ some g := by
    rcases hv with hv | hv
    · rw [hv]; exact fun e => hkg g e rfl
    · rw [hv]; intro e; injection e with e; omega
  have hi := (List.getElem?_eq_some_iff.1 hp).1
  have hrow : w'.ownsRow B 41 10 (.slice (some ⟨g, 0, none⟩) P.length cap) P.length (ndsC P) := own_kept h1.row hg (fun k hk hx => by
    simp only [Value.ownBlock, Option.some.injEq] at hx
    exact hkg k hk hx.symm)
  have hgs := grown_store w' g (i * 10 + 9) k'
  have hbel : Below B W w' := (hb1.mono hB).grown hg hB1 (fun k hk => (h1.kidB hp hk).1)
  refine ⟨k', w', hrun, ?_, ?_, ?_, ?_, ⟨?_, ?_, ?_, ?_⟩, ?_⟩
  · rw [hrow.cellAt _ (by omega), ndsC_at P i 9 p hp (by omega)]; rfl
  · exact hrow.frozenAt _
  · obtain ⟨A', cap', e, _⟩ := own_form hown
    exact ⟨A', cap', e⟩
  · exact hbel.setCell (p := ⟨g, i * 10 + 9, none⟩) hgB k'
  · rw [List.length_set, ← ndsC_set P i 9 p ({ p.1 with kids := p.1.kids ++ [z] }, k') k' hp (by omega) rfl]
    exact (hrow.stored _ _).1
  · intro q y hy
    rcases set_look hp hy with ⟨rfl, rfl⟩ | ⟨hq, hy⟩
    · show World.ownsRow _ _ _ _ k' (p.1.kids ++ [z]).length (kidC (p.1.kids ++ [z]))
      have e : kidC (p.1.kids ++ [z]) = kidC p.1.kids ++ [.int .i64 (z : Int)] := by simp [kidC]
      rw [List.length_append, e]
      exact own_kept hown hgs (fun k hk hx => by injection hk with hk; subst hk; exact k'g hx)
    · have o1 := own_kept (h1.kid q y hy) hg (fun k hk hx => h1.apart q i y p k hy hp hq hx hk)
      exact own_kept o1 hgs (fun k hk hx => by
        injection hk with hk
        subst hk
        exact h1.off q y _ hy hx rfl)
  · intro q r y z' k hy hz hne hk
    rcases set_look hp hy with ⟨e1, e2⟩ | ⟨hq, hy2⟩
    · rcases set_look hp hz with ⟨e3, e4⟩ | ⟨hr, hz2⟩
      · exact absurd (e1.trans e3.symm) hne
      · rw [e2] at hk
        change k'.ownBlock = some k at hk
        rcases hv with hv | hv
        · rw [hv] at hk; exact h1.apart i r p z' k hp hz2 (fun e => hr e.symm) hk
        · rw [hv] at hk; injection hk with hk
          intro e
          have := (h1.kidB hz2 e).2
          omega
    · rcases set_look hp hz with ⟨e3, e4⟩ | ⟨hr, hz2⟩
      · rw [e4]
        show k'.ownBlock ≠ some k
        rcases hv with hv | hv
        · rw [hv]; exact h1.apart q i y p k hy2 hp hq hk
        · rw [hv]; intro e; injection e with e
          have := (h1.kidB hy2 hk).2
          omega
      · exact h1.apart q r y z' k hy2 hz2 hne hk
  · intro q y k hy hk
    rcases set_look hp hy with ⟨rfl, rfl⟩ | ⟨hq, hy⟩
    · change k'.ownBlock = some k at hk
      intro e
      simp only [Value.ownBlock, Option.some.injEq] at e
      exact k'g (by rw [hk, e])
    · exact h1.off q y k hy hk
  · intro B2 v2 Q h2 hgB2 hpB2
    have h3 := (h2.below hb1).keep hg (fun k hk e => by have := (h2.blockB e).1; have := hpB2 k hk; omega) (fun j y k hy hk e => by have := (h2.kidB hy e).1; have := hpB2 k hk; omega)
    exact h3.keep hgs (fun k hk e => by injection hk with hk; have := (h2.blockB e).1; omega) (fun j y k hy hk e => by injection hk with hk; have := (h2.kidB hy e).1; omega)
/-- Another list behind it, whose blocks are further on. -/
theorem Nds.app {W : World} {v : Value} {P Q : List NK} {B2 m c2 : Nat} {A2 : Option Addr} (h : Nds B W v P) (hB : B ≤ W.heap.size) (h2 : Nds B2 W (.slice A2 m c2) Q) (hm : Q.length = m) (hBB : B ≤ B2) (hlt : ∀ k, v.ownBlock = some k → k < B2) (hlk : ∀ (i : Nat) (p : NK) (k : Nat), P[i]? = some p → p.2.ownBlock = some k → k < B2) (hn : P.length + Q.length ≤ 400000) :
    ∃ v' w', (Builtin.append_ #[26, 26] 26 #[v, .slice A2 m c2]).run Try.prog W = .ok v' w' ∧ (∃ A' cap', v' = .slice A' (P.length + m) cap') ∧ Below B W w' ∧ Nds B w' v' (P ++ Q) := by
  have hrow2 := h2.row
  rw [hm] at hrow2
  have hrd : RdC W A2 (ndsC Q) := RdC.own hrow2
  have hone : ∀ u ∈ ndsC Q, u.oneCell' = true := by
    intro u hu
    obtain ⟨p, hp, hu⟩ := List.mem_flatMap.1 hu
    obtain ⟨i, hi⟩ := List.mem_iff_getElem?.1 hp
    obtain ⟨A', cap', e, _⟩ := own_form (h2.kid i p hi)
    simp only [ndC, List.mem_cons, List.not_mem_nil, or_false] at hu
    rcases hu with rfl | rfl | rfl | rfl | rfl | rfl | rfl | rfl | rfl | rfl
    all_goals first | rfl | (rw [e]; rfl)
  obtain ⟨v', w', hrun, hown, hg, hv⟩ := run_append_rows Try.underlying26 node_info rfl (by omega) (by omega) W B v P.length (ndsC P) h.row hB A2 m c2 (ndsC Q) (by rw [ndsC_len, hm]) hrd hone (by omega)
  have look : ∀ (i : Nat) (p : NK), (P ++ Q)[i]? = some p → (i < P.length ∧ P[i]? = some p) ∨ (P.length ≤ i ∧ Q[i - P.length]? = some p) := by
    intro i p hp
    rcases Nat.lt_or_ge i P.length with hi | hi
    · rw [List.getElem?_append_left hi] at hp; exact .inl ⟨hi, hp⟩
    · rw [List.getElem?_append_right hi] at hp; exact .inr ⟨hi, hp⟩
  refine ⟨v', w', hrun, ?_, (Below.refl _ _ |>.mono hB).grown hg hB (fun k hk => (h.blockB hk).1), ⟨?_, ?_, ?_, ?_⟩⟩
  · obtain ⟨A', cap', e, _⟩ := own_form hown
    exact ⟨A', cap', e⟩
  · rw [List.length_append, ndsC_app, hm]; exact hown
  · intro i p hp
    rcases look i p hp with ⟨hi, hp⟩ | ⟨hi, hp⟩
    · exact own_kept (h.kid i p hp) hg (fun k hk hx => h.off i p k hp hx hk)
    · have o := own_kept (h2.kid _ p hp) hg (fun k hk hx => by have := (h2.kidB hp hx).1; have := hlt k hk; omega)
      exact ⟨o.1, by
        rcases o.2 with h0 | ⟨g, cap, cur, hv, hb, hr⟩
        · exact .inl h0
        · exact .inr ⟨g, cap, cur, hv, by omega, hr⟩⟩
  · intro i j p q k hp hq hne hk
    rcases look i p hp with ⟨hi, hp⟩ | ⟨hi, hp⟩
    · rcases look j q hq with ⟨hj, hq⟩ | ⟨hj, hq⟩
      · exact h.apart i j p q k hp hq hne hk
      · intro e; have := (h2.kidB hq e).1; have := hlk i p k hp hk; omega
    · rcases look j q hq with ⟨hj, hq⟩ | ⟨hj, hq⟩
      · intro e; have := (h2.kidB hp hk).1; have := hlk j q k hq e; omega
      · exact h2.apart _ _ p q k hp hq (by omega) hk
  · intro i p k hp hk
    rcases look i p hp with ⟨hi, hp⟩ | ⟨hi, hp⟩
    · rcases hv with hv | hv
      · rw [hv]; exact h.off i p k hp hk
      · rw [hv]; intro e; injection e with e
        have := (h.kidB hp hk).2
        omega
    · rcases hv with hv | hv
      · rw [hv]; intro e; have := hlt k e; have := (h2.kidB hp hk).1; omega
      · rw [hv]; intro e; injection e with e
        have := (h2.kidB hp hk).2
        omega
end
/-- A key's style, value, size (0: none). -/
def rKey (b : List Int) (s : Nat) : Int × List Int × Nat :=
  if b.getD s 0 = 34 then (3, tkV (takeD (b.drop s)), tkN (takeD (b.drop s)))
  else if b.getD s 0 = 39 then (2, Sg.tkV (Sg.takeS (b.drop s)), Sg.tkN (Sg.takeS (b.drop s)))
  else (1, (b.drop s).take (lenF (b.drop s) true), lenF (b.drop s) true)
theorem rKey_fin (s : Nat) (st : Int) (v : List Int) (n : Nat) (hz : 0 < n) : (if (1 : Int) = 1 ∧ n ≤ 128 then some ((⟨1, st, inTag 1 st [] v, [], v, s, s + n, s, s, []⟩ : Nd), s + n) else none) =
    if n = 0 ∨ 128 < n then none else some (⟨1, st, inTag 1 st [] v, [], v, s, s + n, s, s, []⟩, s + n) := by
  by_cases hn : n ≤ 128
  · rw [if_pos ⟨rfl, hn⟩, if_neg (by omega)]
  · rw [if_neg (by omega), if_pos (by omega)]
theorem rKey_eq (b : List Int) (s : Nat) (hs : s ≤ b.length) : inKey b s = if (rKey b s).2.2 = 0 ∨ 128 < (rKey b s).2.2 then none else some (⟨1, (rKey b s).1, inTag 1 (rKey b s).1 [] (rKey b s).2.1, [], (rKey b s).2.1, s, s + (rKey b s).2.2, s, s, []⟩, s + (rKey b s).2.2) := by
  have hsz : ∀ x, inLeaf b true s = some x → x.1 = 1 → 0 < x.2.2.2 := by
    rintro ⟨k, st, v, n⟩ hl hk
    obtain ⟨_, h | h⟩ := leaf_size hs hl
    · simp only at hk; omega
    · exact h.2
  by_cases h1 : b.getD s 0 = 34
  · have er : rKey b s = (3, tkV (takeD (b.drop s)), tkN (takeD (b.drop s))) := by unfold rKey; rw [if_pos h1]
    have el : inLeaf b true s = (takeD (b.drop s)).map fun x => (1, 3, x.1, x.2) := by unfold inLeaf; rw [if_pos h1]
    rw [er]
    cases ht : takeD (b.drop s) with
    | none =>
      rw [ht] at el
      have : inKey b s = none := by unfold inKey; rw [el]; rfl
      rw [this]; rfl
    | some x =>
      obtain ⟨v, n⟩ := x
      rw [ht] at el
      have hz : 0 < n := hsz _ el rfl
      have : inKey b s = (if (1 : Int) = 1 ∧ n ≤ 128 then some ((⟨1, 3, inTag 1 3 [] v, [], v, s, s + n, s, s, []⟩ : Nd), s + n) else none) := by unfold inKey; rw [el]; rfl
      rw [this, rKey_fin s 3 v n hz]; rfl
  · by_cases h2 : b.getD s 0 = 39
    · have er : rKey b s = (2, Sg.tkV (Sg.takeS (b.drop s)), Sg.tkN (Sg.takeS (b.drop s))) := by unfold rKey; rw [if_neg h1, if_pos h2]
      have el : inLeaf b true s = (Sg.takeS (b.drop s)).map fun x => (1, 2, x.1, x.2) := by unfold inLeaf; rw [if_neg h1, if_pos h2]
      rw [er]
      cases ht : Sg.takeS (b.drop s) with
      | none =>
        rw [ht] at el
        have : inKey b s = none := by unfold inKey; rw [el]; rfl
        rw [this]; rfl
      | some x =>
        obtain ⟨v, n⟩ := x
        rw [ht] at el
        have hz : 0 < n := hsz _ el rfl
        have : inKey b s = (if (1 : Int) = 1 ∧ n ≤ 128 then some ((⟨1, 2, inTag 1 2 [] v, [], v, s, s + n, s, s, []⟩ : Nd), s + n) else none) := by unfold inKey; rw [el]; rfl
        rw [this, rKey_fin s 2 v n hz]; rfl
    · have er : rKey b s = (1, (b.drop s).take (lenF (b.drop s) true), lenF (b.drop s) true) := by unfold rKey; rw [if_neg h1, if_neg h2]
      have hp := len_pos (b.drop s) true
      rw [er]
      by_cases h3 : startF (b.drop s) true = true
      · have el : inLeaf b true s = some (1, 1, (b.drop s).take (lenF (b.drop s) true), lenF (b.drop s) true) := by unfold inLeaf; rw [if_neg h1, if_neg h2, if_pos h3]
        have hz : 0 < lenF (b.drop s) true := hsz _ el rfl
        have : inKey b s = (if (1 : Int) = 1 ∧ lenF (b.drop s) true ≤ 128 then some ((⟨1, 1, inTag 1 1 [] ((b.drop s).take (lenF (b.drop s) true)), [], (b.drop s).take (lenF (b.drop s) true), s, s + lenF (b.drop s) true, s, s, []⟩ : Nd), s + lenF (b.drop s) true) else none) := by unfold inKey; rw [el]
        rw [this, rKey_fin s 1 _ _ hz]
      · have el : inLeaf b true s = some (0, 0, [], 0) := by unfold inLeaf; rw [if_neg h1, if_neg h2, if_neg h3]
        have : inKey b s = none := by unfold inKey; rw [el]; rfl
        have h3' : startF (b.drop s) true = false := by simpa using h3
        rw [h3'] at hp
        have h0 : lenF (b.drop s) true = 0 := by
          have := of_decide_eq_false hp
          omega
        rw [this]
        simp only [h0]
        rfl
theorem colon_eq (b : List Int) (s : Nat) : inColon b s = (decide (s < b.length) && (b.getD s 0 == 58 && !(decide (s + 1 < b.length) && (b.getD (s + 1) 0 != 32 && (b.getD (s + 1) 0 != 44 && b.getD (s + 1) 0 != 125))))) := by
  unfold inColon
  by_cases h58 : b.getD s 0 = 58
  · have hlt : s < b.length := getD_lt (by rw [h58]; decide)
    rw [h58, decide_eq_true hlt]
    simp only [beq_self_eq_true, Bool.true_and]
    by_cases he : s + 1 = b.length
    · rw [decide_eq_false (show ¬ s + 1 < b.length by omega)]
      simp [he]
    · rw [decide_eq_true (show s + 1 < b.length by omega)]
      have : (s + 1 == b.length) = false := beq_eq_false_iff_ne.2 he
      rw [this]
      generalize b.getD (s + 1) 0 = x
      apply bool_iff
      simp
  · have : (b.getD s 0 == 58) = false := beq_eq_false_iff_ne.2 h58
    rw [this]; simp
/-- A node at the list's head, as it comes. -/
def HeadC (child : Nat → Nat → InR) (b : List Int) : Prop := ∀ s base l m, s ≤ b.length → child s base = .ok (l, m) → ∃ x t, l = x :: t ∧ x.hd = x.st ∧ x.mr = x.st ∧ ((m = s) ↔ (x.kind = 0 ∧ x.st = x.en))
theorem node_head (f : Nat) (b : List Int) (fl : Bool) : HeadC (inNode f b fl) b := by
  have G : ∀ (child : Nat → Nat → InR) (deep : Bool), SizeC b child → HeadC (inNodeG child deep b fl) b := by
    intro child deep hz s base l m hs h
    unfold inNodeG at h
    split at h
    · rename_i hok
      have hpl := takeP_len (b.drop s)
      rw [List.length_drop] at hpl
      have hs1 : s + (Pr.takeP (b.drop s)).2.2.1 ≤ b.length := by omega
      have hs2 := blk_le hs1
      have hg2 := blk_ge b (s + (Pr.takeP (b.drop s)).2.2.1)
      cases hc : inCont child deep b fl (inBlk b (s + (Pr.takeP (b.drop s)).2.2.1)) (base + 1) with
      | error e => rw [hc] at h; cases h
      | ok y =>
        obtain ⟨x, l', m'⟩ := y
        have hsz := cont_size hz hs2 hc
        rw [hc] at h
        unfold inDone at h
        simp only [] at h
        split at h
        · cases h
        · split at h
          · rename_i hk
            simp only [Except.ok.injEq, Prod.mk.injEq] at h
            obtain ⟨rfl, rfl⟩ := h
            refine ⟨_, _, rfl, rfl, rfl, ?_⟩
            show _ ↔ x.kind = 0 ∧ s = s + _
            exact ⟨fun e => ⟨hk, e.symm⟩, fun e => e.2.symm⟩
          · rename_i hk
            simp only [Except.ok.injEq, Prod.mk.injEq] at h
            obtain ⟨rfl, rfl⟩ := h
            refine ⟨_, _, rfl, rfl, rfl, ?_⟩
            show _ ↔ x.kind = 0 ∧ _
            have h5 := hsz.2.2.2.1 hk
            exact ⟨fun e => by omega, fun e => absurd e.1 hk⟩
    · cases h
  cases f with
  | zero => exact G _ true (fun s base l n hs h => by cases h)
  | succ f => exact G _ false (node_size b f true)
/-- The numbers of Kids are a list's own. -/
def KidC (b : List Int) (child : Nat → Nat → InR) : Prop := ∀ s base l n, child s base = .ok (l, n) → ∀ x ∈ l, ∀ z ∈ x.kids, z < base + l.length
def KidE (ent : Nat → Nat → InE) : Prop := ∀ s base ks l n, ent s base = .ok (ks, l, n) → (∀ z ∈ ks, z < base + l.length) ∧ ∀ x ∈ l, ∀ z ∈ x.kids, z < base + l.length
theorem kid_item {b : List Int} {child : Nat → Nat → InR} (h : KidC b child) (hne : ∀ s base l n, child s base = .ok (l, n) → 1 ≤ l.length) : KidE (inItem child) := by
  intro s base ks l n he
  unfold inItem at he
  cases hc : child s base with
  | error e => rw [hc] at he; cases he
  | ok y =>
    obtain ⟨l', n'⟩ := y
    rw [hc] at he
    simp only [] at he
    split at he
    · cases he
    · simp only [Except.ok.injEq, Prod.mk.injEq] at he
      obtain ⟨rfl, rfl, rfl⟩ := he
      have := hne s base l' n' hc
      exact ⟨fun z hz => by simp at hz; omega, h s base l' n' hc⟩
theorem val_kids (l : List Nd) (hd mk : Nat) (less : Bool) (N : Nat) (h : ∀ x ∈ l, ∀ z ∈ x.kids, z < N) : ∀ x ∈ inVal l hd mk less, ∀ z ∈ x.kids, z < N := by
  cases l with
  | nil => exact h
  | cons y t =>
    intro x hx z hz
    rcases List.mem_cons.1 hx with rfl | hx
    · exact h y (by simp) z hz
    · exact h x (by simp [hx]) z hz
theorem kid_pair {b : List Int} {child : Nat → Nat → InR} (h : KidC b child) (hne : ∀ s base l n, child s base = .ok (l, n) → 1 ≤ l.length) : KidE (inPair child b) := by
  intro s base ks l n he
  unfold inPair at he
  cases hk : inKey b s with
  | none => rw [hk] at he; cases he
  | some y =>
    obtain ⟨k, m⟩ := y
    rw [hk] at he
    simp only [] at he
    split at he
    · cases hc : child (inBlk b (inBlk b m + 1)) (base + 1) with
      | error e => rw [hc] at he; cases he
      | ok y =>
        obtain ⟨l', n'⟩ := y
        rw [hc] at he
        simp only [Except.ok.injEq, Prod.mk.injEq] at he
        obtain ⟨rfl, rfl, rfl⟩ := he
        have h1 := hne _ _ _ _ hc
        have h2 := h _ _ _ _ hc
        refine ⟨fun z hz => ?_, fun x hx z hz => ?_⟩
        · simp only [List.mem_cons, List.not_mem_nil, or_false] at hz
          rw [List.length_cons, val_len]
          rcases hz with rfl | rfl <;> omega
        · rw [List.length_cons, val_len]
          rcases List.mem_cons.1 hx with rfl | hx
          · rw [key_kids hk] at hz; cases hz
          · have := val_kids l' _ _ _ _ h2 x hx z hz
            omega
    · cases he
theorem kid_loop {b : List Int} {ent : Nat → Nat → InE} (h : KidE ent) (c : Int) : ∀ (g s base : Nat) (ks : List Nat) (bl : List Nd) (K : List Nat) (L : List Nd) (n b0 : Nat), b0 + bl.length = base → (∀ z ∈ ks, z < base) → (∀ x ∈ bl, ∀ z ∈ x.kids, z < base) →
    inLoop ent b c g s base ks bl = .ok (K, L, n) → (∀ z ∈ K, z < b0 + L.length) ∧ ∀ x ∈ L, ∀ z ∈ x.kids, z < b0 + L.length
  | 0, _, _, _, _, _, _, _, _, _, _, _, he => by cases he
  | g + 1, s, base, ks, bl, K, L, n, b0, hb, hk, hx, he => by
    rw [inLoop] at he
    cases hc : ent s base with
    | error e => rw [hc] at he; cases he
    | ok y =>
      obtain ⟨k, l, m⟩ := y
      rw [hc] at he
      simp only [] at he
      obtain ⟨h1, h2⟩ := h s base k l m hc
      have f1 : ∀ z ∈ ks ++ k, z < base + l.length := fun z hz => by
        rcases List.mem_append.1 hz with hz | hz
        · have := hk z hz; omega
        · exact h1 z hz
      have f2 : ∀ x ∈ bl ++ l, ∀ z ∈ x.kids, z < base + l.length := fun x hx' z hz => by
        rcases List.mem_append.1 hx' with hx' | hx'
        · have := hx x hx' z hz; omega
        · exact h2 x hx' z hz
      split at he
      · simp only [Except.ok.injEq, Prod.mk.injEq] at he
        obtain ⟨rfl, rfl, rfl⟩ := he
        rw [List.length_append]
        exact ⟨fun z hz => by have := f1 z hz; omega, fun x hx z hz => by have := f2 x hx z hz; omega⟩
      · split at he
        · exact kid_loop h c g _ (base + l.length) (ks ++ k) (bl ++ l) K L n b0 (by rw [List.length_append]; omega) f1 f2 he
        · cases he
theorem kid_coll {b : List Int} {ent : Nat → Nat → InE} (h : KidE ent) (c : Int) : KidE (inColl ent b c) := by
  intro s base ks l n he
  unfold inColl at he
  split at he
  · simp only [Except.ok.injEq, Prod.mk.injEq] at he
    obtain ⟨rfl, rfl, rfl⟩ := he
    exact ⟨fun z hz => (by cases hz), fun x hx => (by cases hx)⟩
  · exact kid_loop h c _ _ base [] [] ks l n base (by simp) (fun z hz => (by cases hz)) (fun x hx => (by cases hx)) he
theorem kid_nodeG {b : List Int} {child : Nat → Nat → InR} (h : KidC b child) (hne : ∀ s base l n, child s base = .ok (l, n) → 1 ≤ l.length) (deep fl : Bool) : KidC b (inNodeG child deep b fl) := by
  intro s base l n he
  unfold inNodeG at he
  split at he
  · cases hc : inCont child deep b fl (inBlk b (s + (Pr.takeP (b.drop s)).2.2.1)) (base + 1) with
    | error e => rw [hc] at he; cases he
    | ok y =>
      obtain ⟨x, l', m⟩ := y
      rw [hc] at he
      have hx : (∀ z ∈ x.kids, z < base + 1 + l'.length) ∧ ∀ y ∈ l', ∀ z ∈ y.kids, z < base + 1 + l'.length := by
        unfold inCont at hc
        have nil1 : ∀ (q : Nd), q.kids = [] → (∀ z ∈ q.kids, z < base + 1 + ([] : List Nd).length) ∧ ∀ y ∈ ([] : List Nd), ∀ z ∈ y.kids, z < base + 1 + ([] : List Nd).length := fun q hq => ⟨fun z hz => (by rw [hq] at hz; cases hz), fun y hy => (by cases hy)⟩
        split at hc
        · split at hc
          · simp only [Except.ok.injEq, Prod.mk.injEq] at hc
            obtain ⟨rfl, rfl, rfl⟩ := hc
            exact nil1 _ rfl
          · cases hc
        · split at hc
          · split at hc
            · cases hc
            · cases hq : inColl (inItem child) b 93 (inBlk b (s + (Pr.takeP (b.drop s)).2.2.1)) (base + 1) with
              | error e => rw [hq] at hc; cases hc
              | ok y =>
                obtain ⟨ks, l2, n2⟩ := y
                rw [hq] at hc
                simp only [Except.ok.injEq, Prod.mk.injEq] at hc
                obtain ⟨rfl, rfl, rfl⟩ := hc
                exact kid_coll (b := b) (kid_item h hne) 93 _ _ _ _ _ hq
          · split at hc
            · split at hc
              · cases hc
              · cases hq : inColl (inPair child b) b 125 (inBlk b (s + (Pr.takeP (b.drop s)).2.2.1)) (base + 1) with
                | error e => rw [hq] at hc; cases hc
                | ok y =>
                  obtain ⟨ks, l2, n2⟩ := y
                  rw [hq] at hc
                  simp only [Except.ok.injEq, Prod.mk.injEq] at hc
                  obtain ⟨rfl, rfl, rfl⟩ := hc
                  exact kid_coll (b := b) (kid_pair h hne) 125 _ _ _ _ _ hq
            · cases hq : inLeaf b fl (inBlk b (s + (Pr.takeP (b.drop s)).2.2.1)) with
              | none => rw [hq] at hc; cases hc
              | some y =>
                obtain ⟨k, st, v, m2⟩ := y
                rw [hq] at hc
                simp only [Except.ok.injEq, Prod.mk.injEq] at hc
                obtain ⟨rfl, rfl, rfl⟩ := hc
                exact nil1 _ rfl
      have fin : ∀ (q : Nd), q.kids = x.kids → ∀ y ∈ q :: l', ∀ z ∈ y.kids, z < base + (q :: l').length := by
        intro q hq y hy z hz
        rw [List.length_cons]
        rcases List.mem_cons.1 hy with rfl | hy
        · rw [hq] at hz; have := hx.1 z hz; omega
        · have := hx.2 y hy z hz; omega
      simp only [inDone] at he
      split at he
      · cases he
      · split at he
        · simp only [Except.ok.injEq, Prod.mk.injEq] at he
          obtain ⟨rfl, rfl⟩ := he
          exact fin _ rfl
        · simp only [Except.ok.injEq, Prod.mk.injEq] at he
          obtain ⟨rfl, rfl⟩ := he
          exact fin _ rfl
  · cases he
theorem nodeG_ne {b : List Int} {child : Nat → Nat → InR} {deep fl : Bool} : ∀ s base l n, inNodeG child deep b fl s base = .ok (l, n) → 1 ≤ l.length := by
  intro s base l n he
  unfold inNodeG at he
  split at he
  · cases hc : inCont child deep b fl (inBlk b (s + (Pr.takeP (b.drop s)).2.2.1)) (base + 1) with
    | error e => rw [hc] at he; cases he
    | ok y =>
      obtain ⟨x, l', m⟩ := y
      rw [hc] at he
      simp only [inDone] at he
      split at he
      · cases he
      · split at he
        · simp only [Except.ok.injEq, Prod.mk.injEq] at he
          obtain ⟨rfl, rfl⟩ := he
          simp
        · simp only [Except.ok.injEq, Prod.mk.injEq] at he
          obtain ⟨rfl, rfl⟩ := he
          simp
  · cases he
/-- A node has no more Kids than the list has nodes. -/
def LenC (child : Nat → Nat → InR) : Prop := ∀ s base l n, child s base = .ok (l, n) → ∀ x ∈ l, x.kids.length ≤ l.length
def LenE (ent : Nat → Nat → InE) : Prop := ∀ s base ks l n, ent s base = .ok (ks, l, n) → ks.length ≤ l.length ∧ ∀ x ∈ l, x.kids.length ≤ l.length
theorem len_item {child : Nat → Nat → InR} (h : LenC child) (hne : ∀ s base l n, child s base = .ok (l, n) → 1 ≤ l.length) : LenE (inItem child) := by
  intro s base ks l n he
  unfold inItem at he
  cases hc : child s base with
  | error e => rw [hc] at he; cases he
  | ok y =>
    obtain ⟨l', n'⟩ := y
    rw [hc] at he
    simp only [] at he
    split at he
    · cases he
    · simp only [Except.ok.injEq, Prod.mk.injEq] at he
      obtain ⟨rfl, rfl, rfl⟩ := he
      exact ⟨hne s base l' n' hc, h s base l' n' hc⟩
theorem val_lens (l : List Nd) (hd mk : Nat) (less : Bool) (N : Nat) (h : ∀ x ∈ l, x.kids.length ≤ N) : ∀ x ∈ inVal l hd mk less, x.kids.length ≤ N := by
  cases l with
  | nil => exact h
  | cons y t =>
    intro x hx
    rcases List.mem_cons.1 hx with rfl | hx
    · exact h y (by simp)
    · exact h x (by simp [hx])
theorem len_pair {b : List Int} {child : Nat → Nat → InR} (h : LenC child) (hne : ∀ s base l n, child s base = .ok (l, n) → 1 ≤ l.length) : LenE (inPair child b) := by
  intro s base ks l n he
  unfold inPair at he
  cases hk : inKey b s with
  | none => rw [hk] at he; cases he
  | some y =>
    obtain ⟨k, m⟩ := y
    rw [hk] at he
    simp only [] at he
    split at he
    · cases hc : child (inBlk b (inBlk b m + 1)) (base + 1) with
      | error e => rw [hc] at he; cases he
      | ok y =>
        obtain ⟨l', n'⟩ := y
        rw [hc] at he
        simp only [Except.ok.injEq, Prod.mk.injEq] at he
        obtain ⟨rfl, rfl, rfl⟩ := he
        have h1 := hne _ _ _ _ hc
        have h2 := h _ _ _ _ hc
        refine ⟨?_, fun x hx => ?_⟩
        · show 2 ≤ _
          rw [List.length_cons, val_len]; omega
        · rw [List.length_cons, val_len]
          rcases List.mem_cons.1 hx with rfl | hx
          · rw [key_kids hk]; simp
          · have := val_lens l' _ _ _ _ h2 x hx
            omega
    · cases he
theorem len_loop {b : List Int} {ent : Nat → Nat → InE} (h : LenE ent) (c : Int) : ∀ (g s base : Nat) (ks : List Nat) (bl : List Nd) (K : List Nat) (L : List Nd) (n : Nat), ks.length ≤ bl.length → (∀ x ∈ bl, x.kids.length ≤ bl.length) →
    inLoop ent b c g s base ks bl = .ok (K, L, n) → K.length ≤ L.length ∧ ∀ x ∈ L, x.kids.length ≤ L.length
  | 0, _, _, _, _, _, _, _, _, _, he => by cases he
  | g + 1, s, base, ks, bl, K, L, n, hk, hx, he => by
    rw [inLoop] at he
    cases hc : ent s base with
    | error e => rw [hc] at he; cases he
    | ok y =>
      obtain ⟨k, l, m⟩ := y
      rw [hc] at he
      simp only [] at he
      obtain ⟨h1, h2⟩ := h s base k l m hc
      have f1 : (ks ++ k).length ≤ (bl ++ l).length := by rw [List.length_append, List.length_append]; omega
      have f2 : ∀ x ∈ bl ++ l, x.kids.length ≤ (bl ++ l).length := fun x hx' => by
        rw [List.length_append]
        rcases List.mem_append.1 hx' with hx' | hx'
        · have := hx x hx'; omega
        · have := h2 x hx'; omega
      split at he
      · simp only [Except.ok.injEq, Prod.mk.injEq] at he
        obtain ⟨rfl, rfl, rfl⟩ := he
        exact ⟨f1, f2⟩
      · split at he
        · exact len_loop h c g _ (base + l.length) (ks ++ k) (bl ++ l) K L n f1 f2 he
        · cases he
theorem len_coll {b : List Int} {ent : Nat → Nat → InE} (h : LenE ent) (c : Int) : LenE (inColl ent b c) := by
  intro s base ks l n he
  unfold inColl at he
  split at he
  · simp only [Except.ok.injEq, Prod.mk.injEq] at he
    obtain ⟨rfl, rfl, rfl⟩ := he
    exact ⟨Nat.le_refl _, fun x hx => (by cases hx)⟩
  · exact len_loop h c _ _ base [] [] ks l n (Nat.le_refl _) (fun x hx => (by cases hx)) he
theorem len_nodeG {b : List Int} {child : Nat → Nat → InR} (h : LenC child) (hne : ∀ s base l n, child s base = .ok (l, n) → 1 ≤ l.length) (deep fl : Bool) : LenC (inNodeG child deep b fl) := by
  intro s base l n he
  unfold inNodeG at he
  split at he
  · cases hc : inCont child deep b fl (inBlk b (s + (Pr.takeP (b.drop s)).2.2.1)) (base + 1) with
    | error e => rw [hc] at he; cases he
    | ok y =>
      obtain ⟨x, l', m⟩ := y
      rw [hc] at he
      have hx : x.kids.length ≤ l'.length ∧ ∀ y ∈ l', y.kids.length ≤ l'.length := by
        unfold inCont at hc
        have nil1 : ∀ (q : Nd), q.kids = [] → q.kids.length ≤ ([] : List Nd).length ∧ ∀ y ∈ ([] : List Nd), y.kids.length ≤ ([] : List Nd).length := fun q hq => ⟨(by rw [hq]; exact Nat.le_refl _), fun y hy => (by cases hy)⟩
        split at hc
        · split at hc
          · simp only [Except.ok.injEq, Prod.mk.injEq] at hc
            obtain ⟨rfl, rfl, rfl⟩ := hc
            exact nil1 _ rfl
          · cases hc
        · split at hc
          · split at hc
            · cases hc
            · cases hq : inColl (inItem child) b 93 (inBlk b (s + (Pr.takeP (b.drop s)).2.2.1)) (base + 1) with
              | error e => rw [hq] at hc; cases hc
              | ok y =>
                obtain ⟨ks, l2, n2⟩ := y
                rw [hq] at hc
                simp only [Except.ok.injEq, Prod.mk.injEq] at hc
                obtain ⟨rfl, rfl, rfl⟩ := hc
                exact len_coll (b := b) (len_item h hne) 93 _ _ _ _ _ hq
          · split at hc
            · split at hc
              · cases hc
              · cases hq : inColl (inPair child b) b 125 (inBlk b (s + (Pr.takeP (b.drop s)).2.2.1)) (base + 1) with
                | error e => rw [hq] at hc; cases hc
                | ok y =>
                  obtain ⟨ks, l2, n2⟩ := y
                  rw [hq] at hc
                  simp only [Except.ok.injEq, Prod.mk.injEq] at hc
                  obtain ⟨rfl, rfl, rfl⟩ := hc
                  exact len_coll (b := b) (len_pair h hne) 125 _ _ _ _ _ hq
            · cases hq : inLeaf b fl (inBlk b (s + (Pr.takeP (b.drop s)).2.2.1)) with
              | none => rw [hq] at hc; cases hc
              | some y =>
                obtain ⟨k, st, v, m2⟩ := y
                rw [hq] at hc
                simp only [Except.ok.injEq, Prod.mk.injEq] at hc
                obtain ⟨rfl, rfl, rfl⟩ := hc
                exact nil1 _ rfl
      have fin : ∀ (q : Nd), q.kids = x.kids → ∀ y ∈ q :: l', y.kids.length ≤ (q :: l').length := by
        intro q hq y hy
        rw [List.length_cons]
        rcases List.mem_cons.1 hy with rfl | hy
        · rw [hq]; have := hx.1; omega
        · have := hx.2 y hy; omega
      simp only [inDone] at he
      split at he
      · cases he
      · split at he
        · simp only [Except.ok.injEq, Prod.mk.injEq] at he
          obtain ⟨rfl, rfl⟩ := he
          exact fin _ rfl
        · simp only [Except.ok.injEq, Prod.mk.injEq] at he
          obtain ⟨rfl, rfl⟩ := he
          exact fin _ rfl
  · cases he
theorem node_kids (b : List Int) : ∀ (f : Nat) (fl : Bool), KidC b (inNode f b fl)
  | 0, fl => kid_nodeG (fun s base l n h => by cases h) (fun s base l n h => by cases h) true fl
  | f + 1, fl => by
    refine kid_nodeG (node_kids b f true) ?_ false fl
    cases f with
    | zero => exact nodeG_ne
    | succ f => exact nodeG_ne
theorem node_lens (b : List Int) : ∀ (f : Nat) (fl : Bool), LenC (inNode f b fl)
  | 0, fl => len_nodeG (fun s base l n h => by cases h) (fun s base l n h => by cases h) true fl
  | f + 1, fl => by
    refine len_nodeG (node_lens b f true) ?_ false fl
    cases f with
    | zero => exact nodeG_ne
    | succ f => exact nodeG_ne
set_option linter.unusedSimpArgs false
def MoveP (W : World) (d : Nat) (L : List Nd) (e : Ending) (W' : World) : Prop := ∃ v' Q, e = .returned v' ∧ Nds W.heap.size W' v' Q ∧ lst Q = mvL d L ∧ Below W.heap.size W W'
/-- The copy, of which the first nodes have Kids of their own. -/
structure Mvd (B : Nat) (V : World) (g cap m : Nat) (Q P : List NK) : Prop where
  row : V.ownsRow B 41 10 (.slice (some ⟨g, 0, none⟩) m cap) m (ndsC (Q ++ P))
  kid : ∀ (i : Nat) (p : NK), Q[i]? = some p → V.ownsRow B 3 1 p.2 p.1.kids.length (kidC p.1.kids)
  apart : ∀ (i j : Nat) (p q : NK) (k : Nat), Q[i]? = some p → Q[j]? = some q → i ≠ j → p.2.ownBlock = some k → q.2.ownBlock ≠ some k
  off : ∀ (i : Nat) (p : NK), Q[i]? = some p → p.2.ownBlock ≠ some g
theorem Mvd.below {B : Nat} {V V' : World} {g cap m : Nat} {Q P : List NK} (h : Mvd B V g cap m Q P) (hb : Below V.heap.size V V') : Mvd B V' g cap m Q P :=
  ⟨own_below h.row hb, fun i p hp => own_below (h.kid i p hp) hb, h.apart, h.off⟩
theorem Mvd.step {B : Nat} {V : World} {g cap m : Nat} {Q P : List NK} {p : NK} (h : Mvd B V g cap m Q (p :: P)) (x : Nd) (kv : Value) (hc : ndC (x, kv) = (ndC p).set 9 kv) (ho : V.ownsRow B 3 1 kv x.kids.length (kidC x.kids)) (hne : kv.ownBlock ≠ some g) (hfr : ∀ (i : Nat) (q : NK) (k : Nat), Q[i]? = some q → q.2.ownBlock = some k → kv.ownBlock ≠ some k) :
    Mvd B (V.setCell ⟨g, Q.length * 10 + 9, none⟩ kv) g cap m (Q ++ [(x, kv)]) P := by
  have hgs := grown_store V g (Q.length * 10 + 9) kv
  have hp : (Q ++ p :: P)[Q.length]? = some p := by rw [List.getElem?_append_right (Nat.le_refl _), Nat.sub_self]; rfl
  refine ⟨?_, ?_, ?_, ?_⟩
  · have e : (Q ++ [(x, kv)]) ++ P = (Q ++ p :: P).set Q.length (x, kv) := by
      rw [List.set_append_right _ _ (Nat.le_refl _), Nat.sub_self]; simp
    rw [e, ← ndsC_set (Q ++ p :: P) Q.length 9 p (x, kv) kv hp (by omega) hc]
    exact (h.row.stored _ _).1
  · intro i q hq
    rcases snoc_look hq with ⟨rfl, rfl⟩ | ⟨hi, hq⟩
    · exact own_kept ho hgs (fun k hk hx => by injection hk with hk; subst hk; exact hne hx)
    · exact own_kept (h.kid i q hq) hgs (fun k hk hx => by injection hk with hk; subst hk; exact h.off i q hq hx)
  · intro i j q r k hq hr hij hk
    rcases snoc_look hq with ⟨rfl, rfl⟩ | ⟨hi, hq⟩
    · rcases snoc_look hr with ⟨rfl, rfl⟩ | ⟨hj, hr⟩
      · exact absurd rfl hij
      · exact fun e => hfr j r k hr e hk
    · rcases snoc_look hr with ⟨rfl, rfl⟩ | ⟨hj, hr⟩
      · exact hfr i q k hq hk
      · exact h.apart i j q r k hq hr hij hk
  · intro i q hq
    rcases snoc_look hq with ⟨rfl, rfl⟩ | ⟨hi, hq⟩
    · exact hne
    · exact h.off i q hq
theorem Mvd.nds {B : Nat} {V : World} {g cap m : Nat} {Q : List NK} (h : Mvd B V g cap m Q []) (hm : Q.length = m) : Nds B V (.slice (some ⟨g, 0, none⟩) m cap) Q := by
  subst hm
  refine ⟨by have := h.row; rwa [List.append_nil] at this, h.kid, h.apart, fun i p k hp hk e => ?_⟩
  simp only [Value.ownBlock, Option.some.injEq] at e
  exact h.off i p hp (by rw [hk, e])
theorem kidC_at (l : List Nat) (i : Nat) (h : i < l.length) : (kidC l)[i]? = some (.int .i64 ((l.getD i 0 : Nat) : Int)) := by
  unfold kidC
  rw [List.getElem?_map, List.getElem?_eq_getElem h]; simp [List.getD, h]
theorem mid_len (l : List Nat) (d q : Nat) (h : q < l.length) : ((l.take q).map (· + d)).length = q := by rw [List.length_map, List.length_take]; omega
theorem mid_at (l : List Nat) (d q : Nat) (h : q < l.length) : ((l.take q).map (· + d) ++ l.drop q).getD q 0 = l.getD q 0 := by
  have h1 := mid_len l d q h
  simp only [List.getD]
  rw [List.getElem?_append_right (by omega), h1, Nat.sub_self, List.getElem?_drop, Nat.add_zero]
theorem mid_set (l : List Nat) (d q : Nat) (h : q < l.length) : (kidC ((l.take q).map (· + d) ++ l.drop q)).set q (.int .i64 (((l.getD q 0 : Nat) : Int) + (d : Int))) = kidC ((l.take (q + 1)).map (· + d) ++ l.drop (q + 1)) := by
  have h1 := mid_len l d q h
  have h2 : l.drop q = l.getD q 0 :: l.drop (q + 1) := by
    rw [List.drop_eq_getElem_cons h]; simp [List.getD, h]
  have h3 : (l.take (q + 1)).map (· + d) = (l.take q).map (· + d) ++ [l.getD q 0 + d] := by
    rw [List.take_add_one, List.map_append, List.getElem?_eq_getElem h]
    congr 1
    simp [List.getD, h]
  rw [h2, h3]
  unfold kidC
  rw [List.map_append, List.set_append_right _ _ (by rw [List.length_map, h1]; exact Nat.le_refl _), List.length_map, h1, Nat.sub_self, List.map_cons, List.set_cons_zero]
  simp
set_option maxHeartbeats 4000000 in
theorem move_at {W : World} {B m c : Nat} {A : Option Addr} {P : List NK} (h : Nds B W (.slice A m c) P) (hm : P.length = m) (h0 : 0 < m) (hn : m ≤ 100010) (d : Nat) (hd : d ≤ 200000) (hkz : ∀ p ∈ P, p.1.kids.length ≤ 100010 ∧ ∀ z ∈ p.1.kids, z ≤ 200000) :
    Calls Try.prog 25 #[.slice A m c, .int .i64 (d : Int)] W (MoveP W d (lst P)) := by
  have hrow := h.row
  rw [hm] at hrow
  have hone : ∀ u ∈ ndsC P, u.oneCell' = true := by
    intro u hu
    obtain ⟨p, hp, hu⟩ := List.mem_flatMap.1 hu
    obtain ⟨i, hi⟩ := List.mem_iff_getElem?.1 hp
    obtain ⟨A', cap', e, _⟩ := own_form (h.kid i p hi)
    simp only [ndC, List.mem_cons, List.not_mem_nil, or_false] at hu
    rcases hu with rfl | rfl | rfl | rfl | rfl | rfl | rfl | rfl | rfl | rfl
    all_goals first | rfl | (rw [e]; rfl)
  obtain ⟨v1, W1, hrun, hown, hg, hv⟩ := run_append_rows Try.underlying26 node_info rfl (by omega) (by omega) W W.heap.size (.slice none 0 0) 0 [] (own_nil _ _ _ _) (Nat.le_refl _) A m c (ndsC P) (by rw [ndsC_len, hm]) (RdC.own hrow) hone (by omega)
  rw [Nat.zero_add, List.nil_append] at hown
  have hb1 : Below W.heap.size W W1 := (Below.refl _ _).grown hg (Nat.le_refl _) (fun k hk => by cases hk)
  obtain ⟨g, cap, rfl⟩ : ∃ g cap, v1 = .slice (some ⟨g, 0, none⟩) m cap := by
    rcases hown.2 with ⟨_, h1⟩ | ⟨g, cap, cur, e, _⟩
    · omega
    · exact ⟨g, cap, e⟩
  have hgB : W.heap.size ≤ g := own_base hown g rfl
  have hcap : m ≤ cap ∧ cap ≤ 9223372036854775807 := by
    obtain ⟨A', c', e, h1, h2, _⟩ := own_form hown
    simp only [Value.slice.injEq] at e
    omega
  have HRUN := Lib.hid hrun
  have H0 : Hid (Mvd W.heap.size W1 g cap m [] P ∧ Below W.heap.size W W1) := ⟨⟨hown, fun i p hp => by simp at hp, fun i j p q k hp => by simp at hp, fun i p hp => by simp at hp⟩, hb1⟩
  have HH := Lib.hid h
  have HM := Lib.hid hm
  have HKZ := Lib.hid hkz
  clear h hrow hone hown hg hv hb1 hrun hm hkz
  go_enter Try.func25, Try.ntmps25
  go_wp2_with (at_builtin; refine wpList_append_known rfl (.const (.slice none 0 0)) (.tmp 9) 26 rfl (.slice none 0 0) (.slice A m c) _ W1 rfl rfl HRUN.out ?_)
  go_loopw [13] (fun i V => ∃ (j : Nat) (Q : List NK), j ≤ m ∧ i = .int .i64 (j : Int) ∧ Hid (Q.length = j ∧ lst Q = mvL d (lst (P.take j)) ∧ Mvd W.heap.size V g cap m Q (P.drop j) ∧ Below W.heap.size W V)) (fun i _ => m - (intOf i).toNat)
  case atStart => exact ⟨0, [], Nat.zero_le _, rfl, rfl, rfl, H0.out.1, H0.out.2⟩
  case round =>
    obtain ⟨j, Q, hj, rfl, HK⟩ := hrel
    obtain ⟨V, hV⟩ : ∃ x, x = wr := ⟨_, rfl⟩
    subst hV
    by_cases hlt : j < m
    · have dj : (j : Int) < (m : Int) := by omega
      obtain ⟨p, hp⟩ : ∃ p, P[j]? = some p := ⟨P[j]'(by rw [HM.out]; exact hlt), List.getElem?_eq_getElem _⟩
      have hdrop : P.drop j = p :: P.drop (j + 1) := by rw [List.drop_eq_getElem_cons (by rw [HM.out]; exact hlt)]; rw [List.getElem?_eq_getElem (by rw [HM.out]; exact hlt)] at hp; injection hp with hp; rw [hp]
      obtain ⟨hQ, hL, hMv, hbV⟩ := HK.out
      rw [hdrop] at hMv
      have hcell : V.cell? ⟨g, j * 10 + 9, none⟩ = some p.2 := by
        rw [hMv.row.cellAt _ (by omega), ndsC_at _ j 9 p (by rw [List.getElem?_append_right (by omega), hQ, Nat.sub_self]; rfl) (by omega)]; rfl
      have hfrz := hMv.row.frozenAt (j * 10 + 9)
      obtain ⟨hkl, hkz⟩ := HKZ.out p (List.mem_of_getElem? hp)
      have hko := HH.out.kid j p hp
      obtain ⟨A1, c1, hpv, hc1, hc2, _⟩ := own_form hko
      have hrd : RdC V A1 (kidC p.1.kids) := by rw [hpv] at hko; exact (RdC.own hko).below hbV
      obtain ⟨kv, V1, hrun1, hown1, hg1, hv1⟩ := run_append_rows Try.underlying22 int_info rfl (by omega) (by omega) V V.heap.size (.slice none 0 0) 0 [] (own_nil _ _ _ _) (Nat.le_refl _) A1 p.1.kids.length c1 (kidC p.1.kids) (by simp [kidC]) hrd (by intro u hu; simp [kidC] at hu; obtain ⟨a, _, rfl⟩ := hu; rfl) (by omega)
      rw [Nat.zero_add, List.nil_append] at hown1
      have hb1 : Below V.heap.size V V1 := (Below.refl _ _).grown hg1 (Nat.le_refl _) (fun k hk => by cases hk)
      obtain ⟨A2, c2, rfl, hc3, hc4, _⟩ := own_form hown1
      obtain ⟨kl, hkll⟩ : ∃ kl, p.1.kids.length = kl := ⟨_, rfl⟩
      have hgV : g < V.heap.size := by have := own_lt hMv.row g rfl; exact this
      rw [hpv] at hcell
      rw [hkll] at hrun1 hown1 hcell hc1 hc3 hkl
      have HRUN1 := Lib.hid hrun1
      have HMV := Lib.hid hMv
      have H1 := Lib.hid (And.intro hown1 hb1)
      have HKL := Lib.hid hkll
      have HZ := Lib.hid hkz
      have HP := Lib.hid (And.intro hp hdrop)
      have HBV := Lib.hid (And.intro hbV (And.intro hQ hL))
      clear hMv hrd hko hpv hrun1 hown1 hg1 hv1 hb1 hkll hkz hp hdrop hbV hQ hL HK
      go_wp2_with (at_builtin; refine wpList_append_known rfl (.const (.slice none 0 0)) (.tmp 20) 22 rfl (.slice none 0 0) (.slice A1 kl c1) _ V1 rfl rfl HRUN1.out ?_)
      go_loopw [24] (fun i U => ∃ q : Nat, q ≤ kl ∧ i = .int .i64 (q : Int) ∧ Hid (U.ownsRow V.heap.size 3 1 (.slice A2 kl c2) kl (kidC ((p.1.kids.take q).map (· + d) ++ p.1.kids.drop q)) ∧ Below V.heap.size V U)) (fun i _ => kl - (intOf i).toNat)
      case atStart => exact ⟨0, Nat.zero_le _, rfl, H1.out.1, H1.out.2⟩
      case round =>
        obtain ⟨q, hq, rfl, HKQ⟩ := hrel
        obtain ⟨U, hU⟩ : ∃ x, x = wr := ⟨_, rfl⟩
        subst hU
        by_cases hqt : q < kl
        · have dq : (q : Int) < (kl : Int) := by omega
          have hkl' := HKL.out
          obtain ⟨gk, rfl⟩ : ∃ gk, A2 = some ⟨gk, 0, none⟩ := by
            rcases HKQ.out.1.2 with ⟨e, _⟩ | ⟨gk, cc, cur, e, _⟩
            · simp only [Value.slice.injEq] at e; omega
            · simp only [Value.slice.injEq] at e; exact ⟨gk, e.1⟩
          have hgk : V.heap.size ≤ gk := own_base HKQ.out.1 gk rfl
          have hat : (kidC ((p.1.kids.take q).map (· + d) ++ p.1.kids.drop q))[q]? = some (.int .i64 ((p.1.kids.getD q 0 : Nat) : Int)) := by
            rw [kidC_at _ _ (by rw [List.length_append, mid_len _ _ _ (by omega), List.length_drop]; omega), mid_at _ _ _ (by omega)]
          have cq : U.cell? ⟨gk, q, none⟩ = some (.int .i64 ((p.1.kids.getD q 0 : Nat) : Int)) := by
            have := HKQ.out.1.cellAt q (by omega)
            rw [hat] at this; exact this
          have zq : U.frozen? ⟨gk, q, none⟩ = false := HKQ.out.1.frozenAt q
          have hz : p.1.kids.getD q 0 ≤ 200000 := by
            have hq2 : q < p.1.kids.length := by omega
            simp only [List.getD, List.getElem?_eq_getElem hq2, Option.getD_some]
            exact HZ.out _ (List.getElem_mem hq2)
          have hset := mid_set p.1.kids d q (by omega)
          clear hat
          obtain ⟨zz, hzz⟩ : ∃ zz, p.1.kids.getD q 0 = zz := ⟨_, rfl⟩
          rw [hzz] at cq hz hset
          have HSET := Lib.hid hset
          clear hzz hset
          go_wp2_with fail
          go_roundw
          case rel =>
            refine ⟨q + 1, by omega, by go_num, ?_, HKQ.out.2.setCell (p := ⟨gk, q, none⟩) hgk _⟩
            have hs := (HKQ.out.1.stored q (.int .i64 ((zz : Int) + (d : Int)))).1
            rw [HSET.out] at hs
            exact hs
          case measure => simp [intOf]; omega
        · obtain rfl : q = kl := by omega
          have hkl' := HKL.out
          have hrow : U.ownsRow V.heap.size 3 1 (.slice A2 q c2) q (kidC (mvN d p.1).kids) := by
            have := HKQ.out.1
            rw [List.take_of_length_le (by omega), List.drop_eq_nil_of_le (by omega), List.append_nil] at this
            exact this
          have hMU := HMV.out.below HKQ.out.2
          have hlen : (mvN d p.1).kids.length = q := by rw [← hkl']; simp [mvN]
          have hQ := HBV.out.2.1
          have hfz := hMU.row.frozenAt (j * 10 + 9)
          have cU := cell_keep HKQ.out.2 hcell
          have hstep := hMU.step (mvN d p.1) (.slice A2 q c2) rfl (by
              rw [hlen]
              refine ⟨hrow.1, ?_⟩
              rcases hrow.2 with h0 | ⟨gk, cc, cur, e, hb, hr⟩
              · exact .inl h0
              · exact .inr ⟨gk, cc, cur, e, Nat.le_trans HBV.out.1.size hb, hr⟩) (fun e => by have := own_base hrow g e; omega)
            (fun i y k hy hk e => by have h1 := own_base hrow k e; have h2 := own_lt (HMV.out.kid i y hy) k hk; omega)
          rw [hQ] at hstep
          have HSTEP := Lib.hid hstep
          have HLEN := Lib.hid hlen
          have HBU := Lib.hid HKQ.out.2
          clear hrow hMU hlen hQ hstep hfrz hcell HKQ H1
          go_wp2_with fail
          go_roundw
          case rel =>
            first
            | exact ⟨j + 1, Q ++ [(mvN d p.1, .slice A2 q c2)], by omega, by go_num, by rw [List.length_append, HBV.out.2.1]; rfl, by
                rw [lst_app, HBV.out.2.2, List.take_add_one, HP.out.1, lst_app]
                simp [mvL, lst], HSTEP.out, (HBV.out.1.trans (HBU.out.mono HBV.out.1.size)).setCell (p := ⟨g, j * 10 + 9, none⟩) hgB _⟩
          case measure => simp [intOf]; omega
    · obtain rfl : j = m := by omega
      obtain ⟨hQ, hL, hMv, hbV⟩ := HK.out
      rw [List.drop_eq_nil_of_le (by rw [HM.out]; exact Nat.le_refl _)] at hMv
      rw [List.take_of_length_le (by rw [HM.out]; exact Nat.le_refl _)] at hL
      have HF := Lib.hid (And.intro (hMv.nds hQ) (And.intro hL hbV))
      clear hQ hL hMv hbV HK
      go_wp2_with fail
      go_ret
      exact ⟨_, Q, rfl, HF.out.1, HF.out.2.1, HF.out.2.2⟩
/-- Ten cells of a node, in a block of our own. -/
def Box (W : World) (g : Nat) (C : List Value) : Prop := W.heap[g]? = some (.cells C.toArray 41)
theorem Box.lt {W : World} {g : Nat} {C : List Value} (h : Box W g C) : g < W.heap.size := (Array.getElem?_eq_some_iff.1 h).1
theorem Box.cell {W : World} {g : Nat} {C : List Value} (h : Box W g C) (j : Nat) (v : Value) (hj : C[j]? = some v) : W.cell? ⟨g, j, none⟩ = some v := by
  unfold Box at h
  simp [World.cell?, h, hj]
theorem Box.frozen {W : World} {g : Nat} {C : List Value} (h : Box W g C) (j : Nat) : W.frozen? ⟨g, j, none⟩ = false := by
  unfold Box at h
  simp [World.frozen?, h]
theorem Box.below {W W' : World} {g : Nat} {C : List Value} (h : Box W g C) (hb : Below W.heap.size W W') : Box W' g C := (hb.block g h.lt).trans h
theorem Box.set {W : World} {g : Nat} {C : List Value} (h : Box W g C) (j : Nat) (v : Value) : Box (W.setCell ⟨g, j, none⟩ v) g (C.set j v) := by
  unfold Box at h ⊢
  simp [World.setCell, Array.getElem?_modify, h]
theorem Box.other {W : World} {g g' : Nat} {C : List Value} (h : Box W g C) (hne : g ≠ g') (j : Nat) (v : Value) : Box (W.setCell ⟨g', j, none⟩ v) g C := (Below.heap_setCell _ _ _ _ hne).trans h
theorem Box.new (W : World) (C : List Value) : Box (W.alloc (.cells C.toArray 41)) W.heap.size C := heap_alloc_new W _
theorem Box.set10 {W : World} {g : Nat} {C : List Value} (h : Box W g C) (hl : C.length = 10) (v0 v1 v2 v3 v4 v5 v6 v7 v8 v9 : Value) : Box ((((((((((W.setCell ⟨g, 0, none⟩ v0).setCell ⟨g, 1, none⟩ v1).setCell ⟨g, 2, none⟩ v2).setCell ⟨g, 3, none⟩ v3).setCell ⟨g, 4, none⟩ v4).setCell ⟨g, 5, none⟩ v5).setCell ⟨g, 6, none⟩ v6).setCell ⟨g, 7, none⟩ v7).setCell ⟨g, 8, none⟩ v8).setCell ⟨g, 9, none⟩ v9) g [v0, v1, v2, v3, v4, v5, v6, v7, v8, v9] := by
  have := (((((((((h.set 0 v0).set 1 v1).set 2 v2).set 3 v3).set 4 v4).set 5 v5).set 6 v6).set 7 v7).set 8 v8).set 9 v9
  match C, hl with
  | [c0, c1, c2, c3, c4, c5, c6, c7, c8, c9], _ => simpa using this
theorem below10 {w W : World} {g : Nat} (h : Below w.heap.size w W) (hg : w.heap.size ≤ g) (v0 v1 v2 v3 v4 v5 v6 v7 v8 v9 : Value) : Below w.heap.size w ((((((((((W.setCell ⟨g, 0, none⟩ v0).setCell ⟨g, 1, none⟩ v1).setCell ⟨g, 2, none⟩ v2).setCell ⟨g, 3, none⟩ v3).setCell ⟨g, 4, none⟩ v4).setCell ⟨g, 5, none⟩ v5).setCell ⟨g, 6, none⟩ v6).setCell ⟨g, 7, none⟩ v7).setCell ⟨g, 8, none⟩ v8).setCell ⟨g, 9, none⟩ v9) :=
  (((((((((h.setCell (p := ⟨g, 0, none⟩) hg v0).setCell (p := ⟨g, 1, none⟩) hg v1).setCell (p := ⟨g, 2, none⟩) hg v2).setCell (p := ⟨g, 3, none⟩) hg v3).setCell (p := ⟨g, 4, none⟩) hg v4).setCell (p := ⟨g, 5, none⟩) hg v5).setCell (p := ⟨g, 6, none⟩) hg v6).setCell (p := ⟨g, 7, none⟩) hg v7).setCell (p := ⟨g, 8, none⟩) hg v8).setCell (p := ⟨g, 9, none⟩) hg v9
theorem load10 (o : Oper) (x : Operand) (ho : o.op = .load 41 x) (a : Act) (V : World) (g : Nat) (v0 v1 v2 v3 v4 v5 v6 v7 v8 v9 : Value) (hx : a.eval x = .pointer (some ⟨g, 0, none⟩)) (h : Box V g [v0, v1, v2, v3, v4, v5, v6, v7, v8, v9]) :
    (execOp a.eval o).run Try.prog V = .ok (.value (.agg #[v0, v1, v2, v3, v4, v5, v6, v7, v8, v9])) V := by
  have c0 := h.cell 0 _ rfl
  have c1 := h.cell 1 _ rfl
  have c2 := h.cell 2 _ rfl
  have c3 := h.cell 3 _ rfl
  have c4 := h.cell 4 _ rfl
  have c5 := h.cell 5 _ rfl
  have c6 := h.cell 6 _ rfl
  have c7 := h.cell 7 _ rfl
  have c8 := h.cell 8 _ rfl
  have c9 := h.cell 9 _ rfl
  unfold execOp
  simp only [ho, hx]
  simp [go_sem, c0, c1, c2, c3, c4, c5, c6, c7, c8, c9]
theorem store_box {V : World} {g j : Nat} {C : List Value} (h : Box V g C) (hj : j < C.length) (v : Value) (hv : v.oneCell' = true) : (store ⟨g, j, none⟩ v).run Try.prog V = .ok () (V.setCell ⟨g, j, none⟩ v) := by
  have hc := h.cell j C[j] (by simp [hj])
  have hz := h.frozen j
  rw [run_store Try.prog V _ v _ hv]
  simp [stored, hc, hz]
theorem store10 (o : Oper) (x y : Operand) (ho : o.op = .store 41 x y) (a : Act) (V : World) (g : Nat) (C : List Value) (hl : C.length = 10) (v0 v1 v2 v3 v4 v5 v6 v7 v8 v9 : Value) (hx : a.eval x = .pointer (some ⟨g, 0, none⟩)) (hy : a.eval y = .agg #[v0, v1, v2, v3, v4, v5, v6, v7, v8, v9]) (hone : ∀ v ∈ [v0, v1, v2, v3, v4, v5, v6, v7, v8, v9], v.oneCell' = true) (h : Box V g C) :
    (execOp a.eval o).run Try.prog V = .ok .skip ((((((((((V.setCell ⟨g, 0, none⟩ v0).setCell ⟨g, 1, none⟩ v1).setCell ⟨g, 2, none⟩ v2).setCell ⟨g, 3, none⟩ v3).setCell ⟨g, 4, none⟩ v4).setCell ⟨g, 5, none⟩ v5).setCell ⟨g, 6, none⟩ v6).setCell ⟨g, 7, none⟩ v7).setCell ⟨g, 8, none⟩ v8).setCell ⟨g, 9, none⟩ v9) := by
  match C, hl with
  | [d0, d1, d2, d3, d4, d5, d6, d7, d8, d9], _ =>
    have s0 := store_box (j := 0) h (by simp) v0 (hone _ (by simp))
    have h0 := h.set 0 v0
    have s1 := store_box (j := 1) h0 (by simp) v1 (hone _ (by simp))
    have h1 := h0.set 1 v1
    have s2 := store_box (j := 2) h1 (by simp) v2 (hone _ (by simp))
    have h2 := h1.set 2 v2
    have s3 := store_box (j := 3) h2 (by simp) v3 (hone _ (by simp))
    have h3 := h2.set 3 v3
    have s4 := store_box (j := 4) h3 (by simp) v4 (hone _ (by simp))
    have h4 := h3.set 4 v4
    have s5 := store_box (j := 5) h4 (by simp) v5 (hone _ (by simp))
    have h5 := h4.set 5 v5
    have s6 := store_box (j := 6) h5 (by simp) v6 (hone _ (by simp))
    have h6 := h5.set 6 v6
    have s7 := store_box (j := 7) h6 (by simp) v7 (hone _ (by simp))
    have h7 := h6.set 7 v7
    have s8 := store_box (j := 8) h7 (by simp) v8 (hone _ (by simp))
    have h8 := h7.set 8 v8
    have s9 := store_box (j := 9) h8 (by simp) v9 (hone _ (by simp))
    have h9 := h8.set 9 v9
    unfold execOp
    simp only [ho, hx, hy]
    simp [go_sem, s0, s1, s2, s3, s4, s5, s6, s7, s8, s9]
theorem field6_exec (o : Oper) (x : Operand) (ho : o.op = .fieldAddr 41 x 6) (a : Act) (V : World) (g : Nat) (hx : a.eval x = .pointer (some ⟨g, 0, none⟩)) : (execOp a.eval o).run Try.prog V = .ok (.value (.pointer (some ⟨g, 6, none⟩))) V := by
  unfold execOp
  simp only [ho, hx]
  simp [go_sem]
theorem loadI_exec (o : Oper) (x : Operand) (ho : o.op = .load 3 x) (a : Act) (V : World) (p : Addr) (z : Int) (hx : a.eval x = .pointer (some p)) (hc : V.cell? p = some (.int .i64 z)) : (execOp a.eval o).run Try.prog V = .ok (.value (.int .i64 z)) V := by
  unfold execOp
  simp only [ho, hx]
  simp [go_sem, hc]
theorem kput_none (a : Act) (v : Value) : a.put none v = a := rfl
/-- The bytes that came in to the document's reader. -/
structure REnv (w : World) (A : Option Addr) (n c : Nat) (b : List Int) : Prop where
  len : b.length = n
  le : n ≤ c
  cap : c ≤ 9223372036854775807
  nil : A = none → c = 0
  byte : Byte b
  rd : RdB w A b
  small : n ≤ 100000
set_option maxHeartbeats 1000000 in
theorem refBlanks_any (A : Option Addr) (n c : Nat) (zs : List Int) (w : World) (hl : zs.length = n) (hnc : n ≤ c) (hm : c ≤ 9223372036854775807) (hr : RdB w A zs) :
    Calls Try.prog 86 #[.slice A n c] w fun e w' => e = .returned (.int .i64 (blkF zs : Int)) ∧ w = w' := by
  have HR := Lib.hid hr
  have HL := Lib.hid hl
  clear hr hl
  go_enter Try.func86, Try.ntmps86
  go_wp2
  go_loop [3] (fun i => ∃ k : Nat, k ≤ n ∧ i = .int .i64 (k : Int) ∧ Hid (blkF zs = k + blkF (zs.drop k))) (fun i => n - (intOf i).toNat)
  case atStart => exact ⟨0, Nat.zero_le _, rfl, by show _ = _; simp⟩
  case round =>
    obtain ⟨k, hk, rfl, HA⟩ := hrel
    by_cases hlt : k < n
    · obtain ⟨b, off, rfl, hc⟩ := HR.out.addr (by rw [HL.out]; omega)
      have ck := hc k (by rw [HL.out]; exact hlt)
      have hbk := blk_at (l := zs) (k := k) (by rw [HL.out]; exact hlt)
      have d1 : (k : Int) < (n : Int) := by omega
      generalize zs.getD k 0 = x at *
      by_cases h32 : x = 32
      · subst h32
        have HK : Hid (blkF zs = k + 1 + blkF (zs.drop (k + 1))) := by show _ = _; rw [HA.out, hbk, if_pos rfl]; omega
        clear hbk hc
        go_wp2
        go_round
        case rel => exact ⟨k + 1, by omega, by go_num, HK⟩
        case measure => simp [intOf]; omega
      · have HK : Hid (blkF zs = k) := by show _ = _; rw [HA.out, hbk, if_neg h32]; omega
        have ds : (x == 32) = false := beq_eq_false_iff_ne.2 h32
        clear hbk hc
        go_wp2
        go_ret
        exact ⟨ret_int (by rw [HK.out]), rfl⟩
    · have HK : Hid (blkF zs = k) := by show _ = _; rw [HA.out, blk_end (by rw [HL.out]; omega)]; omega
      have d1 : decide ((k : Int) < (n : Int)) = false := decide_eq_false (by omega)
      go_wp2
      go_ret
      exact ⟨ret_int (by rw [HK.out]), rfl⟩
/-- A key: its node, where it ends. -/
def RKeyP (w : World) (r : Option (Nd × Nat)) (e : Ending) (W' : World) : Prop :=
  match r with
  | none => e = .returned (.tuple #[.agg #[.int .i64 0, .int .i64 0, .string ⟨#[]⟩, .string ⟨#[]⟩, .string ⟨#[]⟩, .int .i64 0, .int .i64 0, .int .i64 0, .int .i64 0, .slice none 0 0], .int .i64 0, .int .i64 2]) ∧ Below w.heap.size w W'
  | some (x, m) => e = .returned (.tuple #[.agg (ndC (x, .slice none 0 0)).toArray, .int .i64 (m : Int), .int .i64 0]) ∧ Below w.heap.size w W'
section
variable {w W : World} {A : Option Addr} {n c s : Nat} {b : List Int}
set_option maxHeartbeats 8000000 in
theorem rkeyD_at (E : REnv w A n c b) (hw : Below w.heap.size w W) (hs : s ≤ n) (h34 : b.getD s 0 = 34) :
    Calls Try.prog 106 #[.slice A n c, .int .i64 (s : Int)] W (RKeyP w (inKey b s)) := by
  have hlt : s < n := by rw [← E.len]; exact getD_lt (by rw [h34]; decide)
  obtain ⟨a, off, rfl, hc⟩ := (E.rd.below hw).addr (by rw [E.len]; omega)
  have cs := hc s (by rw [E.len]; exact hlt)
  rw [h34] at cs
  have hnc := E.le
  have hm := E.cap
  have hn := E.small
  obtain ⟨A', hsl, hA', hrd⟩ := slice_l (some ⟨a, off, none⟩) n c s b E.len hnc E.nil hs
  have d1 : (s : Int) < (n : Int) := by omega
  have HE := Lib.hid E
  have HS : Hid (s ≤ b.length) := by show s ≤ b.length; rw [E.len]; exact hs
  have HRD := Lib.hid hrd
  have HA := Lib.hid hA'
  have HW := Lib.hid hw
  have HC := Lib.hid cs
  clear E hw hrd hA' hc cs
  go_enter Try.func106, Try.ntmps106
  go_upto_region 6 with fail
  obtain ⟨W1, hW1⟩ : ∃ W1, W.alloc (.cells #[.int .i64 0, .int .i64 0, .string ⟨#[]⟩, .string ⟨#[]⟩, .string ⟨#[]⟩, .int .i64 0, .int .i64 0, .int .i64 0, .int .i64 0, .slice none 0 0] 41) = W1 := ⟨_, rfl⟩
  obtain ⟨gz, hgz⟩ : ∃ g, W.heap.size = g := ⟨_, rfl⟩
  have bz : Box W1 gz [.int .i64 0, .int .i64 0, .string ⟨#[]⟩, .string ⟨#[]⟩, .string ⟨#[]⟩, .int .i64 0, .int .i64 0, .int .i64 0, .int .i64 0, .slice none 0 0] := by rw [← hW1, ← hgz]; exact Box.new W _
  have hb1 : Below W.heap.size W W1 := by rw [← hW1]; exact (Below.refl _ _).alloc (Nat.le_refl _) _
  rw [hW1, hgz]
  obtain ⟨W2, hW2⟩ : ∃ W2, W1.alloc (.cells #[.int .i64 1, .int .i64 0, .string ⟨#[]⟩, .string ⟨#[]⟩, .string ⟨#[]⟩, .int .i64 (s : Int), .int .i64 0, .int .i64 (s : Int), .int .i64 (s : Int), .slice none 0 0] 41) = W2 := ⟨_, rfl⟩
  have hs1 : W1.heap.size = gz + 1 := by rw [← hW1, ← hgz]; simp
  obtain ⟨gx, hgx⟩ : ∃ g, gz + 1 = g := ⟨_, rfl⟩
  have bx : Box W2 gx [.int .i64 1, .int .i64 0, .string ⟨#[]⟩, .string ⟨#[]⟩, .string ⟨#[]⟩, .int .i64 (s : Int), .int .i64 0, .int .i64 (s : Int), .int .i64 (s : Int), .slice none 0 0] := by rw [← hW2, ← hgx, ← hs1]; exact Box.new W1 _
  have hb2 : Below W1.heap.size W1 W2 := by rw [← hW2]; exact (Below.refl _ _).alloc (Nat.le_refl _) _
  rw [hW2, hgx]
  have hlt2 := bz.lt
  have HN : Hid (gx ≠ gz) := by show gx ≠ gz; omega
  have hwz : w.heap.size ≤ gz := by rw [← hgz]; exact HW.out.size
  have hwx : w.heap.size ≤ gx := by omega
  have HZ2 := Lib.hid (bz.below hb2)
  have HX2 := Lib.hid bx
  have HV2 : Hid (Below w.heap.size w W2) := (below_step HW.out hb1).trans (hb2.mono (below_step HW.out hb1).size)
  have cs := cell_keep hb2 (cell_keep hb1 HC.out)
  clear hs1 hW1 hgz hW2 hgx bz bx hb1 hb2 hlt2 HC
  have y1 := HX2.out.cell 1 _ rfl
  have fy1 := HX2.out.frozen 1
  go_wp2_with fail
  have HX3 := Lib.hid (HX2.out.set 1 (.int .i64 3))
  have HZ3 := Lib.hid (HZ2.out.other HN.out.symm 1 (.int .i64 3))
  have HV3 : Hid (Below w.heap.size w (W2.setCell ⟨gx, 1, none⟩ (.int .i64 3))) := HV2.out.setCell (p := ⟨gx, 1, none⟩) hwx _
  generalize W2.setCell ⟨gx, 1, none⟩ (.int .i64 3) = W3 at *
  clear HX2 HZ2 HV2 y1 fy1 cs
  obtain ⟨o, ho⟩ : ∃ o, takeD (b.drop s) = o := ⟨_, rfl⟩
  refine (refTake_any A' (n - s) (c - s) (b.drop s) W3 (by rw [List.length_drop, HE.out.len]) (by omega) (by omega) (by omega) (HE.out.byte.drop s) (HRD.out _ (HE.out.rd.below HV3.out)) o ho).mono ?_
  rintro e W4 ⟨v, hv, rfl, hb4⟩
  obtain ⟨m, hmm⟩ : ∃ m, tkN o = m := ⟨_, rfl⟩
  have HK : Hid (rKey b s = (3, byt v, m)) := by show _ = _; unfold rKey; rw [if_pos h34, ho, hv, hmm]
  have hvz : v.size ≤ 400000 := by
    rw [← byt_len, hv]
    cases o with
    | none => simp [tkV]
    | some x =>
      obtain ⟨y, q⟩ := x
      have := (takeD_byte (HE.out.byte.drop s) ho).2
      rw [List.length_drop, HE.out.len] at this
      simp only [tkV]
      omega
  have hmz : s + m ≤ n := by
    cases o with
    | none => rw [← hmm]; simp only [tkN]; omega
    | some x =>
      obtain ⟨y, q⟩ := x
      have := takeD_len ho
      rw [List.length_drop, HE.out.len] at this
      rw [← hmm]; simp only [tkN]; omega
  rw [hmm]
  clear hv hmm ho h34
  have HX4 := Lib.hid (HX3.out.below hb4)
  have HZ4 := Lib.hid (HZ3.out.below hb4)
  have HV4 := Lib.hid (below_step HV3.out hb4)
  have y4 := HX4.out.cell 4 _ rfl
  have fy4 := HX4.out.frozen 4
  clear hb4 HX3 HZ3 HV3
  go_upto_region 12 with fail
  have HX := Lib.hid (HX4.out.set 4 (.string v))
  have HZ := Lib.hid (HZ4.out.other HN.out.symm 4 (.string v))
  have HV : Hid (Below w.heap.size w (W4.setCell ⟨gx, 4, none⟩ (.string v))) := HV4.out.setCell (p := ⟨gx, 4, none⟩) hwx _
  generalize W4.setCell ⟨gx, 4, none⟩ (.string v) = V3 at *
  clear HX4 HZ4 HV4 y4 fy4
  by_cases hbad : m = 0 ∨ 128 < m
  · have hr : inKey b s = none := by rw [rKey_eq b s HS.out, HK.out]; exact if_pos hbad
    have HR := Lib.hid hr
    have hd : m = 0 ∨ (¬ (m : Int) = 0 ∧ (128 : Int) < (m : Int)) := by omega
    clear hr hbad
    have z0 := HZ.out.cell 0 _ rfl
    have fz0 := HZ.out.frozen 0
    have z1 := HZ.out.cell 1 _ rfl
    have fz1 := HZ.out.frozen 1
    have z2 := HZ.out.cell 2 _ rfl
    have fz2 := HZ.out.frozen 2
    have z3 := HZ.out.cell 3 _ rfl
    have fz3 := HZ.out.frozen 3
    have z4 := HZ.out.cell 4 _ rfl
    have fz4 := HZ.out.frozen 4
    have z5 := HZ.out.cell 5 _ rfl
    have fz5 := HZ.out.frozen 5
    have z6 := HZ.out.cell 6 _ rfl
    have fz6 := HZ.out.frozen 6
    have z7 := HZ.out.cell 7 _ rfl
    have fz7 := HZ.out.frozen 7
    have z8 := HZ.out.cell 8 _ rfl
    have fz8 := HZ.out.frozen 8
    have z9 := HZ.out.cell 9 _ rfl
    have fz9 := HZ.out.frozen 9
    rcases hd with rfl | ⟨hd1, hd2⟩
    · simp only [show ((0 : Nat) : Int) = 0 from rfl]
      obtain ⟨VF, hVF⟩ : ∃ VF, ((((((((((V3.setCell ⟨gz, 0, none⟩ (.int .i64 0)).setCell ⟨gz, 1, none⟩ (.int .i64 0)).setCell ⟨gz, 2, none⟩ (.string ⟨#[]⟩)).setCell ⟨gz, 3, none⟩ (.string ⟨#[]⟩)).setCell ⟨gz, 4, none⟩ (.string ⟨#[]⟩)).setCell ⟨gz, 5, none⟩ (.int .i64 0)).setCell ⟨gz, 6, none⟩ (.int .i64 0)).setCell ⟨gz, 7, none⟩ (.int .i64 0)).setCell ⟨gz, 8, none⟩ (.int .i64 0)).setCell ⟨gz, 9, none⟩ (.slice none 0 0)) = VF := ⟨_, rfl⟩
      have HF : Hid (Box VF gz [.int .i64 0, .int .i64 0, .string ⟨#[]⟩, .string ⟨#[]⟩, .string ⟨#[]⟩, .int .i64 0, .int .i64 0, .int .i64 0, .int .i64 0, .slice none 0 0]) := by show Box VF gz _; rw [← hVF]; exact HZ.out.set10 rfl _ _ _ _ _ _ _ _ _ _
      have HFB : Hid (Below w.heap.size w VF) := by show Below w.heap.size w VF; rw [← hVF]; exact below10 HV.out hwz _ _ _ _ _ _ _ _ _ _
      have HVF := Lib.hid hVF
      clear hVF
      go_wp2_with fail
      rw [HVF.out]
      have r0 := HF.out.cell 0 _ rfl
      have r1 := HF.out.cell 1 _ rfl
      have r2 := HF.out.cell 2 _ rfl
      have r3 := HF.out.cell 3 _ rfl
      have r4 := HF.out.cell 4 _ rfl
      have r5 := HF.out.cell 5 _ rfl
      have r6 := HF.out.cell 6 _ rfl
      have r7 := HF.out.cell 7 _ rfl
      have r8 := HF.out.cell 8 _ rfl
      have r9 := HF.out.cell 9 _ rfl
      refine bodyPost_ret (v := .tuple #[.agg #[.int .i64 0, .int .i64 0, .string ⟨#[]⟩, .string ⟨#[]⟩, .string ⟨#[]⟩, .int .i64 0, .int .i64 0, .int .i64 0, .int .i64 0, .slice none 0 0], .int .i64 0, .int .i64 2]) (by simp [results, Try.results106, go_sem, r0, r1, r2, r3, r4, r5, r6, r7, r8, r9]) rfl ?_
      rw [HR.out]
      exact ⟨rfl, HFB.out⟩
    · skip
      obtain ⟨VF, hVF⟩ : ∃ VF, ((((((((((V3.setCell ⟨gz, 0, none⟩ (.int .i64 0)).setCell ⟨gz, 1, none⟩ (.int .i64 0)).setCell ⟨gz, 2, none⟩ (.string ⟨#[]⟩)).setCell ⟨gz, 3, none⟩ (.string ⟨#[]⟩)).setCell ⟨gz, 4, none⟩ (.string ⟨#[]⟩)).setCell ⟨gz, 5, none⟩ (.int .i64 0)).setCell ⟨gz, 6, none⟩ (.int .i64 0)).setCell ⟨gz, 7, none⟩ (.int .i64 0)).setCell ⟨gz, 8, none⟩ (.int .i64 0)).setCell ⟨gz, 9, none⟩ (.slice none 0 0)) = VF := ⟨_, rfl⟩
      have HF : Hid (Box VF gz [.int .i64 0, .int .i64 0, .string ⟨#[]⟩, .string ⟨#[]⟩, .string ⟨#[]⟩, .int .i64 0, .int .i64 0, .int .i64 0, .int .i64 0, .slice none 0 0]) := by show Box VF gz _; rw [← hVF]; exact HZ.out.set10 rfl _ _ _ _ _ _ _ _ _ _
      have HFB : Hid (Below w.heap.size w VF) := by show Below w.heap.size w VF; rw [← hVF]; exact below10 HV.out hwz _ _ _ _ _ _ _ _ _ _
      have HVF := Lib.hid hVF
      clear hVF
      go_wp2_with fail
      rw [HVF.out]
      have r0 := HF.out.cell 0 _ rfl
      have r1 := HF.out.cell 1 _ rfl
      have r2 := HF.out.cell 2 _ rfl
      have r3 := HF.out.cell 3 _ rfl
      have r4 := HF.out.cell 4 _ rfl
      have r5 := HF.out.cell 5 _ rfl
      have r6 := HF.out.cell 6 _ rfl
      have r7 := HF.out.cell 7 _ rfl
      have r8 := HF.out.cell 8 _ rfl
      have r9 := HF.out.cell 9 _ rfl
      refine bodyPost_ret (v := .tuple #[.agg #[.int .i64 0, .int .i64 0, .string ⟨#[]⟩, .string ⟨#[]⟩, .string ⟨#[]⟩, .int .i64 0, .int .i64 0, .int .i64 0, .int .i64 0, .slice none 0 0], .int .i64 0, .int .i64 2]) (by simp [results, Try.results106, go_sem, r0, r1, r2, r3, r4, r5, r6, r7, r8, r9]) rfl ?_
      rw [HR.out]
      exact ⟨rfl, HFB.out⟩
  · obtain ⟨r, hrr⟩ : ∃ r, strOfNums (inTag 1 3 (byt ⟨#[]⟩) (byt v)) = r := ⟨_, rfl⟩
    have hr : inKey b s = some (⟨1, 3, inTag 1 3 [] (byt v), [], byt v, s, s + m, s, s, []⟩, s + m) := by rw [rKey_eq b s HS.out, HK.out]; exact if_neg hbad
    have HR := Lib.hid hr
    have HRR := Lib.hid hrr
    have hd1 : ¬ (m : Int) = 0 := by omega
    have hd2 : ¬ (128 : Int) < (m : Int) := by omega
    clear hr hbad hrr
    have x6 := HX.out.cell 6 _ rfl
    have f6 := HX.out.frozen 6
    have HX5 := Lib.hid (HX.out.set 6 (.int .i64 ((s : Int) + (m : Int))))
    have HZ5 := Lib.hid (HZ.out.other HN.out.symm 6 (.int .i64 ((s : Int) + (m : Int))))
    have HV5 : Hid (Below w.heap.size w (V3.setCell ⟨gx, 6, none⟩ (.int .i64 ((s : Int) + (m : Int))))) := HV.out.setCell (p := ⟨gx, 6, none⟩) hwx _
    go_upto_region 15 with fail
    generalize V3.setCell ⟨gx, 6, none⟩ (.int .i64 ((s : Int) + (m : Int))) = V5 at *
    have x0 := HX5.out.cell 0 _ rfl
    have x1 := HX5.out.cell 1 _ rfl
    have x4 := HX5.out.cell 4 _ rfl
    clear x6 f6 HX HZ HV
    go_wp2_with fail
    refine (rtag_at (w := V5) (W := V5) (Below.refl _ _) 1 3 ⟨#[]⟩ v (by omega) r HRR.out).mono ?_
    rintro e W6 ⟨rfl, hb6⟩
    have HX6 := Lib.hid (HX5.out.below hb6)
    have x2 := HX6.out.cell 2 _ rfl
    have f2 := HX6.out.frozen 2
    have HX7 := Lib.hid (HX6.out.set 2 (.string r))
    have HZ7 := Lib.hid ((HZ5.out.below hb6).other HN.out.symm 2 (.string r))
    have HV7 : Hid (Below w.heap.size w (W6.setCell ⟨gx, 2, none⟩ (.string r))) := (below_step HV5.out hb6).setCell (p := ⟨gx, 2, none⟩) hwx _
    clear x0 x1 x4 hb6 HX5 HZ5 HV5
    go_upto_region 16 with fail
    generalize W6.setCell ⟨gx, 2, none⟩ (.string r) = V7 at *
    clear x2 f2 HX6
    have x0 := HX7.out.cell 0 _ rfl
    have x1 := HX7.out.cell 1 _ rfl
    have x2 := HX7.out.cell 2 _ rfl
    have x3 := HX7.out.cell 3 _ rfl
    have x4 := HX7.out.cell 4 _ rfl
    have x5 := HX7.out.cell 5 _ rfl
    have x6 := HX7.out.cell 6 _ rfl
    have x7 := HX7.out.cell 7 _ rfl
    have x8 := HX7.out.cell 8 _ rfl
    have x9 := HX7.out.cell 9 _ rfl
    have z0 := HZ7.out.cell 0 _ rfl
    have fz0 := HZ7.out.frozen 0
    have z1 := HZ7.out.cell 1 _ rfl
    have fz1 := HZ7.out.frozen 1
    have z2 := HZ7.out.cell 2 _ rfl
    have fz2 := HZ7.out.frozen 2
    have z3 := HZ7.out.cell 3 _ rfl
    have fz3 := HZ7.out.frozen 3
    have z4 := HZ7.out.cell 4 _ rfl
    have fz4 := HZ7.out.frozen 4
    have z5 := HZ7.out.cell 5 _ rfl
    have fz5 := HZ7.out.frozen 5
    have z6 := HZ7.out.cell 6 _ rfl
    have fz6 := HZ7.out.frozen 6
    have z7 := HZ7.out.cell 7 _ rfl
    have fz7 := HZ7.out.frozen 7
    have z8 := HZ7.out.cell 8 _ rfl
    have fz8 := HZ7.out.frozen 8
    have z9 := HZ7.out.cell 9 _ rfl
    have fz9 := HZ7.out.frozen 9
    have HZ8 : Hid (Box V7.drew gz [.int .i64 0, .int .i64 0, .string ⟨#[]⟩, .string ⟨#[]⟩, .string ⟨#[]⟩, .int .i64 0, .int .i64 0, .int .i64 0, .int .i64 0, .slice none 0 0]) := HZ7.out.below (Below.refl _ _).drew
    have HV8 : Hid (Below w.heap.size w V7.drew) := HV7.out.drew
    have HX8 : Hid (∀ V, Box V gx [.int .i64 1, .int .i64 3, .string r, .string ⟨#[]⟩, .string v, .int .i64 (s : Int), .int .i64 ((s : Int) + (m : Int)), .int .i64 (s : Int), .int .i64 (s : Int), .slice none 0 0] → V.cell? ⟨gx, 0, none⟩ = some (.int .i64 1) ∧ V.cell? ⟨gx, 1, none⟩ = some (.int .i64 3) ∧ V.cell? ⟨gx, 2, none⟩ = some (.string r) ∧ V.cell? ⟨gx, 3, none⟩ = some (.string ⟨#[]⟩) ∧ V.cell? ⟨gx, 4, none⟩ = some (.string v) ∧ V.cell? ⟨gx, 5, none⟩ = some (.int .i64 (s : Int)) ∧ V.cell? ⟨gx, 6, none⟩ = some (.int .i64 ((s : Int) + (m : Int))) ∧ V.cell? ⟨gx, 7, none⟩ = some (.int .i64 (s : Int)) ∧ V.cell? ⟨gx, 8, none⟩ = some (.int .i64 (s : Int)) ∧ V.cell? ⟨gx, 9, none⟩ = some (.slice none 0 0)) := fun V h => ⟨h.cell 0 _ rfl, h.cell 1 _ rfl, h.cell 2 _ rfl, h.cell 3 _ rfl, h.cell 4 _ rfl, h.cell 5 _ rfl, h.cell 6 _ rfl, h.cell 7 _ rfl, h.cell 8 _ rfl, h.cell 9 _ rfl⟩
    have HXS : Hid (Box V7.drew gx [.int .i64 1, .int .i64 3, .string r, .string ⟨#[]⟩, .string v, .int .i64 (s : Int), .int .i64 ((s : Int) + (m : Int)), .int .i64 (s : Int), .int .i64 (s : Int), .slice none 0 0]) := HX7.out.below (Below.refl _ _).drew
    obtain ⟨VF, hVF⟩ : ∃ VF, ((((((((((V7.drew.setCell ⟨gz, 0, none⟩ (.int .i64 1)).setCell ⟨gz, 1, none⟩ (.int .i64 3)).setCell ⟨gz, 2, none⟩ (.string r)).setCell ⟨gz, 3, none⟩ (.string ⟨#[]⟩)).setCell ⟨gz, 4, none⟩ (.string v)).setCell ⟨gz, 5, none⟩ (.int .i64 (s : Int))).setCell ⟨gz, 6, none⟩ (.int .i64 ((s : Int) + (m : Int)))).setCell ⟨gz, 7, none⟩ (.int .i64 (s : Int))).setCell ⟨gz, 8, none⟩ (.int .i64 (s : Int))).setCell ⟨gz, 9, none⟩ (.slice none 0 0)) = VF := ⟨_, rfl⟩
    have HF : Hid (Box VF gz [.int .i64 1, .int .i64 3, .string r, .string ⟨#[]⟩, .string v, .int .i64 (s : Int), .int .i64 ((s : Int) + (m : Int)), .int .i64 (s : Int), .int .i64 (s : Int), .slice none 0 0]) := by show Box VF gz _; rw [← hVF]; exact HZ8.out.set10 rfl _ _ _ _ _ _ _ _ _ _
    have HFB : Hid (Below w.heap.size w VF) := by show Below w.heap.size w VF; rw [← hVF]; exact below10 HV8.out hwz _ _ _ _ _ _ _ _ _ _
    have HVF := Lib.hid hVF
    clear hVF
    have HXF : Hid (Box VF gx [.int .i64 1, .int .i64 3, .string r, .string ⟨#[]⟩, .string v, .int .i64 (s : Int), .int .i64 ((s : Int) + (m : Int)), .int .i64 (s : Int), .int .i64 (s : Int), .slice none 0 0]) := by
      show Box VF gx _
      rw [← HVF.out]
      exact ((((((((((HXS.out.other HN.out 0 _).other HN.out 1 _).other HN.out 2 _).other HN.out 3 _).other HN.out 4 _).other HN.out 5 _).other HN.out 6 _).other HN.out 7 _).other HN.out 8 _).other HN.out 9 _)
    clear x0 x1 x2 x3 x4 x5 x6 x7 x8 x9 z0 z1 z2 z3 z4 z5 z6 z7 z8 z9 fz0 fz1 fz2 fz3 fz4 fz5 fz6 fz7 fz8 fz9 HX8
    refine gen_act fun a0 hA => ?_
    have hsz : a0.tmps.size = 92 := by rw [hA]; rfl
    have e4 : a0.eval (.tmp 4) = .pointer (some ⟨gz, 0, none⟩) := by rw [hA]; rfl
    have e7 : a0.eval (.tmp 7) = .pointer (some ⟨gx, 0, none⟩) := by rw [hA]; rfl
    refine region_gate (fun V => Box V gx [.int .i64 1, .int .i64 3, .string r, .string ⟨#[]⟩, .string v, .int .i64 (s : Int), .int .i64 ((s : Int) + (m : Int)), .int .i64 (s : Int), .int .i64 (s : Int), .slice none 0 0]) 4 (by kernel_rfl) ?_
    change wpGate _ _ _ _ _ _ 6 _ _ _
    refine gate_take0 (i := 1) (v := .pointer (some ⟨gx, 6, none⟩)) rfl (by rfl) (by kernel_rfl) (by kernel_rfl) (by kernel_rfl) (fun _ _ _ h => h) rfl (fun V => field6_exec _ (.tmp 7) rfl _ V gx e7) HXS.out ?_
    refine gate_take (i := 0) (v := .agg #[.int .i64 1, .int .i64 3, .string r, .string ⟨#[]⟩, .string v, .int .i64 (s : Int), .int .i64 ((s : Int) + (m : Int)), .int .i64 (s : Int), .int .i64 (s : Int), .slice none 0 0]) rfl (by rfl) (by kernel_rfl) (by kernel_rfl) (by kernel_rfl) (by kernel_rfl) (by kernel_rfl) (fun _ _ _ h => h) rfl (fun V hV => load10 _ (.tmp 7) rfl _ V gx _ _ _ _ _ _ _ _ _ _ (by simp [evp_ne, e7]) hV) HXS.out ?_
    refine gate_take (i := 2) (v := .int .i64 ((s : Int) + (m : Int))) rfl (by rfl) (by kernel_rfl) (by kernel_rfl) (by kernel_rfl) (by kernel_rfl) (by kernel_rfl) (fun _ _ _ h => h) rfl (fun V hV => by
      have c6 := hV.cell 6 _ rfl
      have e90 : ((a0.put (some 90) (.pointer (some ⟨gx, 6, none⟩))).put (some 89) (.agg #[.int .i64 1, .int .i64 3, .string r, .string ⟨#[]⟩, .string v, .int .i64 (s : Int), .int .i64 ((s : Int) + (m : Int)), .int .i64 (s : Int), .int .i64 (s : Int), .slice none 0 0])).eval (.tmp 90) = .pointer (some ⟨gx, 6, none⟩) := by simp [evp_same, evp_ne, szp, hsz]
      exact loadI_exec _ (.tmp 90) rfl _ V _ _ e90 c6) HXS.out ?_
    refine gate_one (i := 3) (by kernel_rfl) ?_
    refine wpOp_skip (w' := VF) rfl rfl (by rw [← HVF.out]; exact store10 _ (.tmp 4) (.tmp 89) rfl _ V7.drew gz _ rfl _ _ _ _ _ _ _ _ _ _ (by simp [evp_ne, e4]) (by simp [evp_same, evp_ne, szp, hsz]) (by simp [Value.oneCell']) HZ8.out) ⟨fun _ => HXF.out, ?_⟩
    refine gate_one (i := 4) (by kernel_rfl) ?_
    refine wpOp_value (w' := VF) (v := .int .i64 ((s : Int) + (m : Int))) rfl rfl (by simp [execOp, kput_none, evp_same, evp_ne, szp, hsz]) ⟨fun _ => HXF.out, ?_⟩
    refine gate_one (i := 5) (by kernel_rfl) ?_
    refine wpOp_value (w' := VF) (v := .int .i64 0) rfl rfl (by simp [execOp]; rfl) ⟨fun _ => HXF.out, ?_⟩
    refine gate_done (by kernel_rfl) ?_ _
    subst hA
    clear hsz e4 e7
    go_wp2_with fail
    simp only [Act.put, List.setIfInBounds_toArray, List.set_cons_zero, List.set_cons_succ]
    have r0 := HF.out.cell 0 _ rfl
    have r1 := HF.out.cell 1 _ rfl
    have r2 := HF.out.cell 2 _ rfl
    have r3 := HF.out.cell 3 _ rfl
    have r4 := HF.out.cell 4 _ rfl
    have r5 := HF.out.cell 5 _ rfl
    have r6 := HF.out.cell 6 _ rfl
    have r7 := HF.out.cell 7 _ rfl
    have r8 := HF.out.cell 8 _ rfl
    have r9 := HF.out.cell 9 _ rfl
    refine bodyPost_ret (v := .tuple #[.agg #[.int .i64 1, .int .i64 3, .string r, .string ⟨#[]⟩, .string v, .int .i64 (s : Int), .int .i64 ((s : Int) + (m : Int)), .int .i64 (s : Int), .int .i64 (s : Int), .slice none 0 0], .int .i64 ((s : Int) + (m : Int)), .int .i64 0]) (by simp [results, Try.results106, go_sem, r0, r1, r2, r3, r4, r5, r6, r7, r8, r9]) rfl ?_
    rw [HR.out]
    have e : ((s + m : Nat) : Int) = (s : Int) + (m : Int) := by omega
    have er : strOfNums (inTag 1 3 [] (byt v)) = r := HRR.out
    refine ⟨?_, HFB.out⟩
    simp only [ndC, List.toArray, e, er, strOfNums_byt]
    rfl
set_option maxHeartbeats 8000000 in
theorem rkeyS_at (E : REnv w A n c b) (hw : Below w.heap.size w W) (hs : s ≤ n) (h34 : b.getD s 0 = 39) :
    Calls Try.prog 106 #[.slice A n c, .int .i64 (s : Int)] W (RKeyP w (inKey b s)) := by
  have hlt : s < n := by rw [← E.len]; exact getD_lt (by rw [h34]; decide)
  obtain ⟨a, off, rfl, hc⟩ := (E.rd.below hw).addr (by rw [E.len]; omega)
  have cs := hc s (by rw [E.len]; exact hlt)
  rw [h34] at cs
  have hnc := E.le
  have hm := E.cap
  have hn := E.small
  obtain ⟨A', hsl, hA', hrd⟩ := slice_l (some ⟨a, off, none⟩) n c s b E.len hnc E.nil hs
  have d1 : (s : Int) < (n : Int) := by omega
  have HE := Lib.hid E
  have HS : Hid (s ≤ b.length) := by show s ≤ b.length; rw [E.len]; exact hs
  have HRD := Lib.hid hrd
  have HA := Lib.hid hA'
  have HW := Lib.hid hw
  have HC := Lib.hid cs
  clear E hw hrd hA' hc cs
  go_enter Try.func106, Try.ntmps106
  go_upto_region 6 with fail
  obtain ⟨W1, hW1⟩ : ∃ W1, W.alloc (.cells #[.int .i64 0, .int .i64 0, .string ⟨#[]⟩, .string ⟨#[]⟩, .string ⟨#[]⟩, .int .i64 0, .int .i64 0, .int .i64 0, .int .i64 0, .slice none 0 0] 41) = W1 := ⟨_, rfl⟩
  obtain ⟨gz, hgz⟩ : ∃ g, W.heap.size = g := ⟨_, rfl⟩
  have bz : Box W1 gz [.int .i64 0, .int .i64 0, .string ⟨#[]⟩, .string ⟨#[]⟩, .string ⟨#[]⟩, .int .i64 0, .int .i64 0, .int .i64 0, .int .i64 0, .slice none 0 0] := by rw [← hW1, ← hgz]; exact Box.new W _
  have hb1 : Below W.heap.size W W1 := by rw [← hW1]; exact (Below.refl _ _).alloc (Nat.le_refl _) _
  rw [hW1, hgz]
  obtain ⟨W2, hW2⟩ : ∃ W2, W1.alloc (.cells #[.int .i64 1, .int .i64 0, .string ⟨#[]⟩, .string ⟨#[]⟩, .string ⟨#[]⟩, .int .i64 (s : Int), .int .i64 0, .int .i64 (s : Int), .int .i64 (s : Int), .slice none 0 0] 41) = W2 := ⟨_, rfl⟩
  have hs1 : W1.heap.size = gz + 1 := by rw [← hW1, ← hgz]; simp
  obtain ⟨gx, hgx⟩ : ∃ g, gz + 1 = g := ⟨_, rfl⟩
  have bx : Box W2 gx [.int .i64 1, .int .i64 0, .string ⟨#[]⟩, .string ⟨#[]⟩, .string ⟨#[]⟩, .int .i64 (s : Int), .int .i64 0, .int .i64 (s : Int), .int .i64 (s : Int), .slice none 0 0] := by rw [← hW2, ← hgx, ← hs1]; exact Box.new W1 _
  have hb2 : Below W1.heap.size W1 W2 := by rw [← hW2]; exact (Below.refl _ _).alloc (Nat.le_refl _) _
  rw [hW2, hgx]
  have hlt2 := bz.lt
  have HN : Hid (gx ≠ gz) := by show gx ≠ gz; omega
  have hwz : w.heap.size ≤ gz := by rw [← hgz]; exact HW.out.size
  have hwx : w.heap.size ≤ gx := by omega
  have HZ2 := Lib.hid (bz.below hb2)
  have HX2 := Lib.hid bx
  have HV2 : Hid (Below w.heap.size w W2) := (below_step HW.out hb1).trans (hb2.mono (below_step HW.out hb1).size)
  have cs := cell_keep hb2 (cell_keep hb1 HC.out)
  clear hs1 hW1 hgz hW2 hgx bz bx hb1 hb2 hlt2 HC
  have y1 := HX2.out.cell 1 _ rfl
  have fy1 := HX2.out.frozen 1
  go_wp2_with fail
  have HX3 := Lib.hid (HX2.out.set 1 (.int .i64 2))
  have HZ3 := Lib.hid (HZ2.out.other HN.out.symm 1 (.int .i64 2))
  have HV3 : Hid (Below w.heap.size w (W2.setCell ⟨gx, 1, none⟩ (.int .i64 2))) := HV2.out.setCell (p := ⟨gx, 1, none⟩) hwx _
  generalize W2.setCell ⟨gx, 1, none⟩ (.int .i64 2) = W3 at *
  clear HX2 HZ2 HV2 y1 fy1 cs
  obtain ⟨o, ho⟩ : ∃ o, Sg.takeS (b.drop s) = o := ⟨_, rfl⟩
  refine (Sg.refTake_any A' (n - s) (c - s) (b.drop s) W3 (by rw [List.length_drop, HE.out.len]) (by omega) (by omega) (by omega) (HE.out.byte.drop s) (HRD.out _ (HE.out.rd.below HV3.out)) o ho).mono ?_
  rintro e W4 ⟨v, hv, rfl, hb4⟩
  obtain ⟨m, hmm⟩ : ∃ m, Sg.tkN o = m := ⟨_, rfl⟩
  have HK : Hid (rKey b s = (2, byt v, m)) := by show _ = _; unfold rKey; rw [if_neg (by rw [h34]; decide), if_pos h34, ho, hv, hmm]
  have hvz : v.size ≤ 400000 := by
    rw [← byt_len, hv]
    cases o with
    | none => simp [Sg.tkV]
    | some x =>
      obtain ⟨y, q⟩ := x
      obtain ⟨g1, g2, g3⟩ := Sg.takeS_sgl _ _ _ ho
      have hl2 := sgl_len _ (((b.drop s).drop 1).take (q - 1 - 1)) (Nat.le_refl _)
      rw [List.length_take, List.length_drop, List.length_drop, HE.out.len] at hl2
      simp only [Sg.tkV]
      rw [g3]
      omega
  have hmz : s + m ≤ n := by
    cases o with
    | none => rw [← hmm]; simp only [Sg.tkN]; omega
    | some x =>
      obtain ⟨y, q⟩ := x
      obtain ⟨g1, g2, g3⟩ := Sg.takeS_sgl _ _ _ ho
      rw [List.length_drop, HE.out.len] at g2
      rw [← hmm]; simp only [Sg.tkN]; omega
  rw [hmm]
  clear hv hmm ho h34
  have HX4 := Lib.hid (HX3.out.below hb4)
  have HZ4 := Lib.hid (HZ3.out.below hb4)
  have HV4 := Lib.hid (below_step HV3.out hb4)
  have y4 := HX4.out.cell 4 _ rfl
  have fy4 := HX4.out.frozen 4
  clear hb4 HX3 HZ3 HV3
  go_upto_region 12 with fail
  have HX := Lib.hid (HX4.out.set 4 (.string v))
  have HZ := Lib.hid (HZ4.out.other HN.out.symm 4 (.string v))
  have HV : Hid (Below w.heap.size w (W4.setCell ⟨gx, 4, none⟩ (.string v))) := HV4.out.setCell (p := ⟨gx, 4, none⟩) hwx _
  generalize W4.setCell ⟨gx, 4, none⟩ (.string v) = V3 at *
  clear HX4 HZ4 HV4 y4 fy4
  by_cases hbad : m = 0 ∨ 128 < m
  · have hr : inKey b s = none := by rw [rKey_eq b s HS.out, HK.out]; exact if_pos hbad
    have HR := Lib.hid hr
    have hd : m = 0 ∨ (¬ (m : Int) = 0 ∧ (128 : Int) < (m : Int)) := by omega
    clear hr hbad
    have z0 := HZ.out.cell 0 _ rfl
    have fz0 := HZ.out.frozen 0
    have z1 := HZ.out.cell 1 _ rfl
    have fz1 := HZ.out.frozen 1
    have z2 := HZ.out.cell 2 _ rfl
    have fz2 := HZ.out.frozen 2
    have z3 := HZ.out.cell 3 _ rfl
    have fz3 := HZ.out.frozen 3
    have z4 := HZ.out.cell 4 _ rfl
    have fz4 := HZ.out.frozen 4
    have z5 := HZ.out.cell 5 _ rfl
    have fz5 := HZ.out.frozen 5
    have z6 := HZ.out.cell 6 _ rfl
    have fz6 := HZ.out.frozen 6
    have z7 := HZ.out.cell 7 _ rfl
    have fz7 := HZ.out.frozen 7
    have z8 := HZ.out.cell 8 _ rfl
    have fz8 := HZ.out.frozen 8
    have z9 := HZ.out.cell 9 _ rfl
    have fz9 := HZ.out.frozen 9
    rcases hd with rfl | ⟨hd1, hd2⟩
    · simp only [show ((0 : Nat) : Int) = 0 from rfl]
      obtain ⟨VF, hVF⟩ : ∃ VF, ((((((((((V3.setCell ⟨gz, 0, none⟩ (.int .i64 0)).setCell ⟨gz, 1, none⟩ (.int .i64 0)).setCell ⟨gz, 2, none⟩ (.string ⟨#[]⟩)).setCell ⟨gz, 3, none⟩ (.string ⟨#[]⟩)).setCell ⟨gz, 4, none⟩ (.string ⟨#[]⟩)).setCell ⟨gz, 5, none⟩ (.int .i64 0)).setCell ⟨gz, 6, none⟩ (.int .i64 0)).setCell ⟨gz, 7, none⟩ (.int .i64 0)).setCell ⟨gz, 8, none⟩ (.int .i64 0)).setCell ⟨gz, 9, none⟩ (.slice none 0 0)) = VF := ⟨_, rfl⟩
      have HF : Hid (Box VF gz [.int .i64 0, .int .i64 0, .string ⟨#[]⟩, .string ⟨#[]⟩, .string ⟨#[]⟩, .int .i64 0, .int .i64 0, .int .i64 0, .int .i64 0, .slice none 0 0]) := by show Box VF gz _; rw [← hVF]; exact HZ.out.set10 rfl _ _ _ _ _ _ _ _ _ _
      have HFB : Hid (Below w.heap.size w VF) := by show Below w.heap.size w VF; rw [← hVF]; exact below10 HV.out hwz _ _ _ _ _ _ _ _ _ _
      have HVF := Lib.hid hVF
      clear hVF
      go_wp2_with fail
      rw [HVF.out]
      have r0 := HF.out.cell 0 _ rfl
      have r1 := HF.out.cell 1 _ rfl
      have r2 := HF.out.cell 2 _ rfl
      have r3 := HF.out.cell 3 _ rfl
      have r4 := HF.out.cell 4 _ rfl
      have r5 := HF.out.cell 5 _ rfl
      have r6 := HF.out.cell 6 _ rfl
      have r7 := HF.out.cell 7 _ rfl
      have r8 := HF.out.cell 8 _ rfl
      have r9 := HF.out.cell 9 _ rfl
      refine bodyPost_ret (v := .tuple #[.agg #[.int .i64 0, .int .i64 0, .string ⟨#[]⟩, .string ⟨#[]⟩, .string ⟨#[]⟩, .int .i64 0, .int .i64 0, .int .i64 0, .int .i64 0, .slice none 0 0], .int .i64 0, .int .i64 2]) (by simp [results, Try.results106, go_sem, r0, r1, r2, r3, r4, r5, r6, r7, r8, r9]) rfl ?_
      rw [HR.out]
      exact ⟨rfl, HFB.out⟩
    · skip
      obtain ⟨VF, hVF⟩ : ∃ VF, ((((((((((V3.setCell ⟨gz, 0, none⟩ (.int .i64 0)).setCell ⟨gz, 1, none⟩ (.int .i64 0)).setCell ⟨gz, 2, none⟩ (.string ⟨#[]⟩)).setCell ⟨gz, 3, none⟩ (.string ⟨#[]⟩)).setCell ⟨gz, 4, none⟩ (.string ⟨#[]⟩)).setCell ⟨gz, 5, none⟩ (.int .i64 0)).setCell ⟨gz, 6, none⟩ (.int .i64 0)).setCell ⟨gz, 7, none⟩ (.int .i64 0)).setCell ⟨gz, 8, none⟩ (.int .i64 0)).setCell ⟨gz, 9, none⟩ (.slice none 0 0)) = VF := ⟨_, rfl⟩
      have HF : Hid (Box VF gz [.int .i64 0, .int .i64 0, .string ⟨#[]⟩, .string ⟨#[]⟩, .string ⟨#[]⟩, .int .i64 0, .int .i64 0, .int .i64 0, .int .i64 0, .slice none 0 0]) := by show Box VF gz _; rw [← hVF]; exact HZ.out.set10 rfl _ _ _ _ _ _ _ _ _ _
      have HFB : Hid (Below w.heap.size w VF) := by show Below w.heap.size w VF; rw [← hVF]; exact below10 HV.out hwz _ _ _ _ _ _ _ _ _ _
      have HVF := Lib.hid hVF
      clear hVF
      go_wp2_with fail
      rw [HVF.out]
      have r0 := HF.out.cell 0 _ rfl
      have r1 := HF.out.cell 1 _ rfl
      have r2 := HF.out.cell 2 _ rfl
      have r3 := HF.out.cell 3 _ rfl
      have r4 := HF.out.cell 4 _ rfl
      have r5 := HF.out.cell 5 _ rfl
      have r6 := HF.out.cell 6 _ rfl
      have r7 := HF.out.cell 7 _ rfl
      have r8 := HF.out.cell 8 _ rfl
      have r9 := HF.out.cell 9 _ rfl
      refine bodyPost_ret (v := .tuple #[.agg #[.int .i64 0, .int .i64 0, .string ⟨#[]⟩, .string ⟨#[]⟩, .string ⟨#[]⟩, .int .i64 0, .int .i64 0, .int .i64 0, .int .i64 0, .slice none 0 0], .int .i64 0, .int .i64 2]) (by simp [results, Try.results106, go_sem, r0, r1, r2, r3, r4, r5, r6, r7, r8, r9]) rfl ?_
      rw [HR.out]
      exact ⟨rfl, HFB.out⟩
  · obtain ⟨r, hrr⟩ : ∃ r, strOfNums (inTag 1 2 (byt ⟨#[]⟩) (byt v)) = r := ⟨_, rfl⟩
    have hr : inKey b s = some (⟨1, 2, inTag 1 2 [] (byt v), [], byt v, s, s + m, s, s, []⟩, s + m) := by rw [rKey_eq b s HS.out, HK.out]; exact if_neg hbad
    have HR := Lib.hid hr
    have HRR := Lib.hid hrr
    have hd1 : ¬ (m : Int) = 0 := by omega
    have hd2 : ¬ (128 : Int) < (m : Int) := by omega
    clear hr hbad hrr
    have x6 := HX.out.cell 6 _ rfl
    have f6 := HX.out.frozen 6
    have HX5 := Lib.hid (HX.out.set 6 (.int .i64 ((s : Int) + (m : Int))))
    have HZ5 := Lib.hid (HZ.out.other HN.out.symm 6 (.int .i64 ((s : Int) + (m : Int))))
    have HV5 : Hid (Below w.heap.size w (V3.setCell ⟨gx, 6, none⟩ (.int .i64 ((s : Int) + (m : Int))))) := HV.out.setCell (p := ⟨gx, 6, none⟩) hwx _
    go_upto_region 15 with fail
    generalize V3.setCell ⟨gx, 6, none⟩ (.int .i64 ((s : Int) + (m : Int))) = V5 at *
    have x0 := HX5.out.cell 0 _ rfl
    have x1 := HX5.out.cell 1 _ rfl
    have x4 := HX5.out.cell 4 _ rfl
    clear x6 f6 HX HZ HV
    go_wp2_with fail
    refine (rtag_at (w := V5) (W := V5) (Below.refl _ _) 1 2 ⟨#[]⟩ v (by omega) r HRR.out).mono ?_
    rintro e W6 ⟨rfl, hb6⟩
    have HX6 := Lib.hid (HX5.out.below hb6)
    have x2 := HX6.out.cell 2 _ rfl
    have f2 := HX6.out.frozen 2
    have HX7 := Lib.hid (HX6.out.set 2 (.string r))
    have HZ7 := Lib.hid ((HZ5.out.below hb6).other HN.out.symm 2 (.string r))
    have HV7 : Hid (Below w.heap.size w (W6.setCell ⟨gx, 2, none⟩ (.string r))) := (below_step HV5.out hb6).setCell (p := ⟨gx, 2, none⟩) hwx _
    clear x0 x1 x4 hb6 HX5 HZ5 HV5
    go_upto_region 16 with fail
    generalize W6.setCell ⟨gx, 2, none⟩ (.string r) = V7 at *
    clear x2 f2 HX6
    have x0 := HX7.out.cell 0 _ rfl
    have x1 := HX7.out.cell 1 _ rfl
    have x2 := HX7.out.cell 2 _ rfl
    have x3 := HX7.out.cell 3 _ rfl
    have x4 := HX7.out.cell 4 _ rfl
    have x5 := HX7.out.cell 5 _ rfl
    have x6 := HX7.out.cell 6 _ rfl
    have x7 := HX7.out.cell 7 _ rfl
    have x8 := HX7.out.cell 8 _ rfl
    have x9 := HX7.out.cell 9 _ rfl
    have z0 := HZ7.out.cell 0 _ rfl
    have fz0 := HZ7.out.frozen 0
    have z1 := HZ7.out.cell 1 _ rfl
    have fz1 := HZ7.out.frozen 1
    have z2 := HZ7.out.cell 2 _ rfl
    have fz2 := HZ7.out.frozen 2
    have z3 := HZ7.out.cell 3 _ rfl
    have fz3 := HZ7.out.frozen 3
    have z4 := HZ7.out.cell 4 _ rfl
    have fz4 := HZ7.out.frozen 4
    have z5 := HZ7.out.cell 5 _ rfl
    have fz5 := HZ7.out.frozen 5
    have z6 := HZ7.out.cell 6 _ rfl
    have fz6 := HZ7.out.frozen 6
    have z7 := HZ7.out.cell 7 _ rfl
    have fz7 := HZ7.out.frozen 7
    have z8 := HZ7.out.cell 8 _ rfl
    have fz8 := HZ7.out.frozen 8
    have z9 := HZ7.out.cell 9 _ rfl
    have fz9 := HZ7.out.frozen 9
    have HZ8 : Hid (Box V7.drew gz [.int .i64 0, .int .i64 0, .string ⟨#[]⟩, .string ⟨#[]⟩, .string ⟨#[]⟩, .int .i64 0, .int .i64 0, .int .i64 0, .int .i64 0, .slice none 0 0]) := HZ7.out.below (Below.refl _ _).drew
    have HV8 : Hid (Below w.heap.size w V7.drew) := HV7.out.drew
    have HX8 : Hid (∀ V, Box V gx [.int .i64 1, .int .i64 2, .string r, .string ⟨#[]⟩, .string v, .int .i64 (s : Int), .int .i64 ((s : Int) + (m : Int)), .int .i64 (s : Int), .int .i64 (s : Int), .slice none 0 0] → V.cell? ⟨gx, 0, none⟩ = some (.int .i64 1) ∧ V.cell? ⟨gx, 1, none⟩ = some (.int .i64 2) ∧ V.cell? ⟨gx, 2, none⟩ = some (.string r) ∧ V.cell? ⟨gx, 3, none⟩ = some (.string ⟨#[]⟩) ∧ V.cell? ⟨gx, 4, none⟩ = some (.string v) ∧ V.cell? ⟨gx, 5, none⟩ = some (.int .i64 (s : Int)) ∧ V.cell? ⟨gx, 6, none⟩ = some (.int .i64 ((s : Int) + (m : Int))) ∧ V.cell? ⟨gx, 7, none⟩ = some (.int .i64 (s : Int)) ∧ V.cell? ⟨gx, 8, none⟩ = some (.int .i64 (s : Int)) ∧ V.cell? ⟨gx, 9, none⟩ = some (.slice none 0 0)) := fun V h => ⟨h.cell 0 _ rfl, h.cell 1 _ rfl, h.cell 2 _ rfl, h.cell 3 _ rfl, h.cell 4 _ rfl, h.cell 5 _ rfl, h.cell 6 _ rfl, h.cell 7 _ rfl, h.cell 8 _ rfl, h.cell 9 _ rfl⟩
    have HXS : Hid (Box V7.drew gx [.int .i64 1, .int .i64 2, .string r, .string ⟨#[]⟩, .string v, .int .i64 (s : Int), .int .i64 ((s : Int) + (m : Int)), .int .i64 (s : Int), .int .i64 (s : Int), .slice none 0 0]) := HX7.out.below (Below.refl _ _).drew
    obtain ⟨VF, hVF⟩ : ∃ VF, ((((((((((V7.drew.setCell ⟨gz, 0, none⟩ (.int .i64 1)).setCell ⟨gz, 1, none⟩ (.int .i64 2)).setCell ⟨gz, 2, none⟩ (.string r)).setCell ⟨gz, 3, none⟩ (.string ⟨#[]⟩)).setCell ⟨gz, 4, none⟩ (.string v)).setCell ⟨gz, 5, none⟩ (.int .i64 (s : Int))).setCell ⟨gz, 6, none⟩ (.int .i64 ((s : Int) + (m : Int)))).setCell ⟨gz, 7, none⟩ (.int .i64 (s : Int))).setCell ⟨gz, 8, none⟩ (.int .i64 (s : Int))).setCell ⟨gz, 9, none⟩ (.slice none 0 0)) = VF := ⟨_, rfl⟩
    have HF : Hid (Box VF gz [.int .i64 1, .int .i64 2, .string r, .string ⟨#[]⟩, .string v, .int .i64 (s : Int), .int .i64 ((s : Int) + (m : Int)), .int .i64 (s : Int), .int .i64 (s : Int), .slice none 0 0]) := by show Box VF gz _; rw [← hVF]; exact HZ8.out.set10 rfl _ _ _ _ _ _ _ _ _ _
    have HFB : Hid (Below w.heap.size w VF) := by show Below w.heap.size w VF; rw [← hVF]; exact below10 HV8.out hwz _ _ _ _ _ _ _ _ _ _
    have HVF := Lib.hid hVF
    clear hVF
    have HXF : Hid (Box VF gx [.int .i64 1, .int .i64 2, .string r, .string ⟨#[]⟩, .string v, .int .i64 (s : Int), .int .i64 ((s : Int) + (m : Int)), .int .i64 (s : Int), .int .i64 (s : Int), .slice none 0 0]) := by
      show Box VF gx _
      rw [← HVF.out]
      exact ((((((((((HXS.out.other HN.out 0 _).other HN.out 1 _).other HN.out 2 _).other HN.out 3 _).other HN.out 4 _).other HN.out 5 _).other HN.out 6 _).other HN.out 7 _).other HN.out 8 _).other HN.out 9 _)
    clear x0 x1 x2 x3 x4 x5 x6 x7 x8 x9 z0 z1 z2 z3 z4 z5 z6 z7 z8 z9 fz0 fz1 fz2 fz3 fz4 fz5 fz6 fz7 fz8 fz9 HX8
    refine gen_act fun a0 hA => ?_
    have hsz : a0.tmps.size = 92 := by rw [hA]; rfl
    have e4 : a0.eval (.tmp 4) = .pointer (some ⟨gz, 0, none⟩) := by rw [hA]; rfl
    have e7 : a0.eval (.tmp 7) = .pointer (some ⟨gx, 0, none⟩) := by rw [hA]; rfl
    refine region_gate (fun V => Box V gx [.int .i64 1, .int .i64 2, .string r, .string ⟨#[]⟩, .string v, .int .i64 (s : Int), .int .i64 ((s : Int) + (m : Int)), .int .i64 (s : Int), .int .i64 (s : Int), .slice none 0 0]) 4 (by kernel_rfl) ?_
    change wpGate _ _ _ _ _ _ 6 _ _ _
    refine gate_take0 (i := 1) (v := .pointer (some ⟨gx, 6, none⟩)) rfl (by rfl) (by kernel_rfl) (by kernel_rfl) (by kernel_rfl) (fun _ _ _ h => h) rfl (fun V => field6_exec _ (.tmp 7) rfl _ V gx e7) HXS.out ?_
    refine gate_take (i := 0) (v := .agg #[.int .i64 1, .int .i64 2, .string r, .string ⟨#[]⟩, .string v, .int .i64 (s : Int), .int .i64 ((s : Int) + (m : Int)), .int .i64 (s : Int), .int .i64 (s : Int), .slice none 0 0]) rfl (by rfl) (by kernel_rfl) (by kernel_rfl) (by kernel_rfl) (by kernel_rfl) (by kernel_rfl) (fun _ _ _ h => h) rfl (fun V hV => load10 _ (.tmp 7) rfl _ V gx _ _ _ _ _ _ _ _ _ _ (by simp [evp_ne, e7]) hV) HXS.out ?_
    refine gate_take (i := 2) (v := .int .i64 ((s : Int) + (m : Int))) rfl (by rfl) (by kernel_rfl) (by kernel_rfl) (by kernel_rfl) (by kernel_rfl) (by kernel_rfl) (fun _ _ _ h => h) rfl (fun V hV => by
      have c6 := hV.cell 6 _ rfl
      have e90 : ((a0.put (some 90) (.pointer (some ⟨gx, 6, none⟩))).put (some 89) (.agg #[.int .i64 1, .int .i64 2, .string r, .string ⟨#[]⟩, .string v, .int .i64 (s : Int), .int .i64 ((s : Int) + (m : Int)), .int .i64 (s : Int), .int .i64 (s : Int), .slice none 0 0])).eval (.tmp 90) = .pointer (some ⟨gx, 6, none⟩) := by simp [evp_same, evp_ne, szp, hsz]
      exact loadI_exec _ (.tmp 90) rfl _ V _ _ e90 c6) HXS.out ?_
    refine gate_one (i := 3) (by kernel_rfl) ?_
    refine wpOp_skip (w' := VF) rfl rfl (by rw [← HVF.out]; exact store10 _ (.tmp 4) (.tmp 89) rfl _ V7.drew gz _ rfl _ _ _ _ _ _ _ _ _ _ (by simp [evp_ne, e4]) (by simp [evp_same, evp_ne, szp, hsz]) (by simp [Value.oneCell']) HZ8.out) ⟨fun _ => HXF.out, ?_⟩
    refine gate_one (i := 4) (by kernel_rfl) ?_
    refine wpOp_value (w' := VF) (v := .int .i64 ((s : Int) + (m : Int))) rfl rfl (by simp [execOp, kput_none, evp_same, evp_ne, szp, hsz]) ⟨fun _ => HXF.out, ?_⟩
    refine gate_one (i := 5) (by kernel_rfl) ?_
    refine wpOp_value (w' := VF) (v := .int .i64 0) rfl rfl (by simp [execOp]; rfl) ⟨fun _ => HXF.out, ?_⟩
    refine gate_done (by kernel_rfl) ?_ _
    subst hA
    clear hsz e4 e7
    go_wp2_with fail
    simp only [Act.put, List.setIfInBounds_toArray, List.set_cons_zero, List.set_cons_succ]
    have r0 := HF.out.cell 0 _ rfl
    have r1 := HF.out.cell 1 _ rfl
    have r2 := HF.out.cell 2 _ rfl
    have r3 := HF.out.cell 3 _ rfl
    have r4 := HF.out.cell 4 _ rfl
    have r5 := HF.out.cell 5 _ rfl
    have r6 := HF.out.cell 6 _ rfl
    have r7 := HF.out.cell 7 _ rfl
    have r8 := HF.out.cell 8 _ rfl
    have r9 := HF.out.cell 9 _ rfl
    refine bodyPost_ret (v := .tuple #[.agg #[.int .i64 1, .int .i64 2, .string r, .string ⟨#[]⟩, .string v, .int .i64 (s : Int), .int .i64 ((s : Int) + (m : Int)), .int .i64 (s : Int), .int .i64 (s : Int), .slice none 0 0], .int .i64 ((s : Int) + (m : Int)), .int .i64 0]) (by simp [results, Try.results106, go_sem, r0, r1, r2, r3, r4, r5, r6, r7, r8, r9]) rfl ?_
    rw [HR.out]
    have e : ((s + m : Nat) : Int) = (s : Int) + (m : Int) := by omega
    have er : strOfNums (inTag 1 2 [] (byt v)) = r := HRR.out
    refine ⟨?_, HFB.out⟩
    simp only [ndC, List.toArray, e, er, strOfNums_byt]
    rfl
set_option maxHeartbeats 8000000 in
theorem rkeyP_at (E : REnv w A n c b) (hw : Below w.heap.size w W) (hs : s ≤ n) (hlt : s < n) (h1 : b.getD s 0 ≠ 34) (h2 : b.getD s 0 ≠ 39) :
    Calls Try.prog 106 #[.slice A n c, .int .i64 (s : Int)] W (RKeyP w (inKey b s)) := by
  obtain ⟨a, off, rfl, hc⟩ := (E.rd.below hw).addr (by rw [E.len]; omega)
  have cs := hc s (by rw [E.len]; exact hlt)
  have HK0 : Hid (rKey b s = (1, (b.drop s).take (lenF (b.drop s) true), lenF (b.drop s) true)) := by show _ = _; unfold rKey; rw [if_neg h1, if_neg h2]
  have q1 : (b.getD s 0 == 34) = false := beq_eq_false_iff_ne.2 h1
  have q2 : (b.getD s 0 == 39) = false := beq_eq_false_iff_ne.2 h2
  clear h1 h2
  generalize b.getD s 0 = x at cs q1 q2
  have hnc := E.le
  have hm := E.cap
  have hn := E.small
  obtain ⟨A', hsl, hA', hrd⟩ := slice_l (some ⟨a, off, none⟩) n c s b E.len hnc E.nil hs
  have d1 : (s : Int) < (n : Int) := by omega
  have HE := Lib.hid E
  have HS : Hid (s ≤ b.length) := by show s ≤ b.length; rw [E.len]; exact hs
  have HRD := Lib.hid hrd
  have HA := Lib.hid hA'
  have HW := Lib.hid hw
  have HC := Lib.hid cs
  clear E hw hrd hA' hc cs
  go_enter Try.func106, Try.ntmps106
  go_upto_region 6 with fail
  obtain ⟨W1, hW1⟩ : ∃ W1, W.alloc (.cells #[.int .i64 0, .int .i64 0, .string ⟨#[]⟩, .string ⟨#[]⟩, .string ⟨#[]⟩, .int .i64 0, .int .i64 0, .int .i64 0, .int .i64 0, .slice none 0 0] 41) = W1 := ⟨_, rfl⟩
  obtain ⟨gz, hgz⟩ : ∃ g, W.heap.size = g := ⟨_, rfl⟩
  have bz : Box W1 gz [.int .i64 0, .int .i64 0, .string ⟨#[]⟩, .string ⟨#[]⟩, .string ⟨#[]⟩, .int .i64 0, .int .i64 0, .int .i64 0, .int .i64 0, .slice none 0 0] := by rw [← hW1, ← hgz]; exact Box.new W _
  have hb1 : Below W.heap.size W W1 := by rw [← hW1]; exact (Below.refl _ _).alloc (Nat.le_refl _) _
  rw [hW1, hgz]
  obtain ⟨W2, hW2⟩ : ∃ W2, W1.alloc (.cells #[.int .i64 1, .int .i64 0, .string ⟨#[]⟩, .string ⟨#[]⟩, .string ⟨#[]⟩, .int .i64 (s : Int), .int .i64 0, .int .i64 (s : Int), .int .i64 (s : Int), .slice none 0 0] 41) = W2 := ⟨_, rfl⟩
  have hs1 : W1.heap.size = gz + 1 := by rw [← hW1, ← hgz]; simp
  obtain ⟨gx, hgx⟩ : ∃ g, gz + 1 = g := ⟨_, rfl⟩
  have bx : Box W2 gx [.int .i64 1, .int .i64 0, .string ⟨#[]⟩, .string ⟨#[]⟩, .string ⟨#[]⟩, .int .i64 (s : Int), .int .i64 0, .int .i64 (s : Int), .int .i64 (s : Int), .slice none 0 0] := by rw [← hW2, ← hgx, ← hs1]; exact Box.new W1 _
  have hb2 : Below W1.heap.size W1 W2 := by rw [← hW2]; exact (Below.refl _ _).alloc (Nat.le_refl _) _
  rw [hW2, hgx]
  have hlt2 := bz.lt
  have HN : Hid (gx ≠ gz) := by show gx ≠ gz; omega
  have hwz : w.heap.size ≤ gz := by rw [← hgz]; exact HW.out.size
  have hwx : w.heap.size ≤ gx := by omega
  have HZ2 := Lib.hid (bz.below hb2)
  have HX2 := Lib.hid bx
  have HV2 : Hid (Below w.heap.size w W2) := (below_step HW.out hb1).trans (hb2.mono (below_step HW.out hb1).size)
  have cs := cell_keep hb2 (cell_keep hb1 HC.out)
  clear hs1 hW1 hgz hW2 hgx bz bx hb1 hb2 hlt2 HC
  have y1 := HX2.out.cell 1 _ rfl
  have fy1 := HX2.out.frozen 1
  go_wp2_with fail
  have HX3 := Lib.hid (HX2.out.set 1 (.int .i64 1))
  have HZ3 := Lib.hid (HZ2.out.other HN.out.symm 1 (.int .i64 1))
  have HV3 : Hid (Below w.heap.size w (W2.setCell ⟨gx, 1, none⟩ (.int .i64 1))) := HV2.out.setCell (p := ⟨gx, 1, none⟩) hwx _
  generalize W2.setCell ⟨gx, 1, none⟩ (.int .i64 1) = W3 at *
  clear HX2 HZ2 HV2 y1 fy1 cs q1 q2
  obtain ⟨m, hmm⟩ : ∃ m, lenF (b.drop s) true = m := ⟨_, rfl⟩
  have hmz : s + m ≤ n := by
    have := len_le (b.drop s) true
    rw [List.length_drop, HE.out.len, hmm] at this
    omega
  refine (refLength_any A' (n - s) (c - s) (b.drop s) true W3 (by rw [List.length_drop, HE.out.len]) (by omega) (by omega) (HE.out.byte.drop s) (HRD.out _ (HE.out.rd.below HV3.out)) m hmm).mono ?_
  rintro e W4 ⟨rfl, rfl⟩
  obtain ⟨A2, hsl2, _, hrd2⟩ := slice_lh (some ⟨a, off, none⟩) n c s (s + m) b HE.out.len HE.out.le HE.out.nil (by omega) hmz
  rw [show s + m - s = m by omega] at hsl2 hrd2
  have hsl3 : ∀ W, (Instr.slice 96 (.slice (some ⟨a, off, none⟩) n c) (some (.int .i64 (s : Int))) (some (.int .i64 ((s : Int) + (m : Int)))) none).run Try.prog W = .ok (.slice A2 m (c - s)) W := fun W => by
    rw [show (s : Int) + (m : Int) = ((s + m : Nat) : Int) by omega]; exact hsl2 W
  have hstr : (convert 96 9 (.slice A2 m (c - s))).run Try.prog W3 = .ok (.string (strOfNums ((b.drop s).take m))) W3 := run_string_rd W3 A2 m (c - s) _ (by rw [List.length_take, List.length_drop, HE.out.len]; omega) (hrd2 _ (HE.out.rd.below HV3.out))
  obtain ⟨v, hv⟩ : ∃ v, strOfNums ((b.drop s).take m) = v := ⟨_, rfl⟩
  have hvb : byt v = (b.drop s).take m := by rw [← hv]; exact byt_strOfNums _ ((HE.out.byte.drop s).take m)
  have HK : Hid (rKey b s = (1, byt v, m)) := by show _ = _; rw [HK0.out, hmm, hvb]
  have hvz : v.size ≤ 400000 := by rw [← byt_len, hvb, List.length_take, List.length_drop, HE.out.len]; omega
  rw [hv] at hstr
  clear hv hvb hmm hsl2 hrd2
  have y4 := HX3.out.cell 4 _ rfl
  have fy4 := HX3.out.frozen 4
  go_upto_region 12 with fail
  have HX := Lib.hid (HX3.out.set 4 (.string v))
  have HZ := Lib.hid (HZ3.out.other HN.out.symm 4 (.string v))
  have HV : Hid (Below w.heap.size w (W3.setCell ⟨gx, 4, none⟩ (.string v))) := HV3.out.setCell (p := ⟨gx, 4, none⟩) hwx _
  generalize W3.setCell ⟨gx, 4, none⟩ (.string v) = V3 at *
  clear HX3 HZ3 HV3 y4 fy4 hstr hsl3
  by_cases hbad : m = 0 ∨ 128 < m
  · have hr : inKey b s = none := by rw [rKey_eq b s HS.out, HK.out]; exact if_pos hbad
    have HR := Lib.hid hr
    have hd : m = 0 ∨ (¬ (m : Int) = 0 ∧ (128 : Int) < (m : Int)) := by omega
    clear hr hbad
    have z0 := HZ.out.cell 0 _ rfl
    have fz0 := HZ.out.frozen 0
    have z1 := HZ.out.cell 1 _ rfl
    have fz1 := HZ.out.frozen 1
    have z2 := HZ.out.cell 2 _ rfl
    have fz2 := HZ.out.frozen 2
    have z3 := HZ.out.cell 3 _ rfl
    have fz3 := HZ.out.frozen 3
    have z4 := HZ.out.cell 4 _ rfl
    have fz4 := HZ.out.frozen 4
    have z5 := HZ.out.cell 5 _ rfl
    have fz5 := HZ.out.frozen 5
    have z6 := HZ.out.cell 6 _ rfl
    have fz6 := HZ.out.frozen 6
    have z7 := HZ.out.cell 7 _ rfl
    have fz7 := HZ.out.frozen 7
    have z8 := HZ.out.cell 8 _ rfl
    have fz8 := HZ.out.frozen 8
    have z9 := HZ.out.cell 9 _ rfl
    have fz9 := HZ.out.frozen 9
    rcases hd with rfl | ⟨hd1, hd2⟩
    · simp only [show ((0 : Nat) : Int) = 0 from rfl]
      obtain ⟨VF, hVF⟩ : ∃ VF, ((((((((((V3.setCell ⟨gz, 0, none⟩ (.int .i64 0)).setCell ⟨gz, 1, none⟩ (.int .i64 0)).setCell ⟨gz, 2, none⟩ (.string ⟨#[]⟩)).setCell ⟨gz, 3, none⟩ (.string ⟨#[]⟩)).setCell ⟨gz, 4, none⟩ (.string ⟨#[]⟩)).setCell ⟨gz, 5, none⟩ (.int .i64 0)).setCell ⟨gz, 6, none⟩ (.int .i64 0)).setCell ⟨gz, 7, none⟩ (.int .i64 0)).setCell ⟨gz, 8, none⟩ (.int .i64 0)).setCell ⟨gz, 9, none⟩ (.slice none 0 0)) = VF := ⟨_, rfl⟩
      have HF : Hid (Box VF gz [.int .i64 0, .int .i64 0, .string ⟨#[]⟩, .string ⟨#[]⟩, .string ⟨#[]⟩, .int .i64 0, .int .i64 0, .int .i64 0, .int .i64 0, .slice none 0 0]) := by show Box VF gz _; rw [← hVF]; exact HZ.out.set10 rfl _ _ _ _ _ _ _ _ _ _
      have HFB : Hid (Below w.heap.size w VF) := by show Below w.heap.size w VF; rw [← hVF]; exact below10 HV.out hwz _ _ _ _ _ _ _ _ _ _
      have HVF := Lib.hid hVF
      clear hVF
      go_wp2_with fail
      rw [HVF.out]
      have r0 := HF.out.cell 0 _ rfl
      have r1 := HF.out.cell 1 _ rfl
      have r2 := HF.out.cell 2 _ rfl
      have r3 := HF.out.cell 3 _ rfl
      have r4 := HF.out.cell 4 _ rfl
      have r5 := HF.out.cell 5 _ rfl
      have r6 := HF.out.cell 6 _ rfl
      have r7 := HF.out.cell 7 _ rfl
      have r8 := HF.out.cell 8 _ rfl
      have r9 := HF.out.cell 9 _ rfl
      refine bodyPost_ret (v := .tuple #[.agg #[.int .i64 0, .int .i64 0, .string ⟨#[]⟩, .string ⟨#[]⟩, .string ⟨#[]⟩, .int .i64 0, .int .i64 0, .int .i64 0, .int .i64 0, .slice none 0 0], .int .i64 0, .int .i64 2]) (by simp [results, Try.results106, go_sem, r0, r1, r2, r3, r4, r5, r6, r7, r8, r9]) rfl ?_
      rw [HR.out]
      exact ⟨rfl, HFB.out⟩
    · skip
      obtain ⟨VF, hVF⟩ : ∃ VF, ((((((((((V3.setCell ⟨gz, 0, none⟩ (.int .i64 0)).setCell ⟨gz, 1, none⟩ (.int .i64 0)).setCell ⟨gz, 2, none⟩ (.string ⟨#[]⟩)).setCell ⟨gz, 3, none⟩ (.string ⟨#[]⟩)).setCell ⟨gz, 4, none⟩ (.string ⟨#[]⟩)).setCell ⟨gz, 5, none⟩ (.int .i64 0)).setCell ⟨gz, 6, none⟩ (.int .i64 0)).setCell ⟨gz, 7, none⟩ (.int .i64 0)).setCell ⟨gz, 8, none⟩ (.int .i64 0)).setCell ⟨gz, 9, none⟩ (.slice none 0 0)) = VF := ⟨_, rfl⟩
      have HF : Hid (Box VF gz [.int .i64 0, .int .i64 0, .string ⟨#[]⟩, .string ⟨#[]⟩, .string ⟨#[]⟩, .int .i64 0, .int .i64 0, .int .i64 0, .int .i64 0, .slice none 0 0]) := by show Box VF gz _; rw [← hVF]; exact HZ.out.set10 rfl _ _ _ _ _ _ _ _ _ _
      have HFB : Hid (Below w.heap.size w VF) := by show Below w.heap.size w VF; rw [← hVF]; exact below10 HV.out hwz _ _ _ _ _ _ _ _ _ _
      have HVF := Lib.hid hVF
      clear hVF
      go_wp2_with fail
      rw [HVF.out]
      have r0 := HF.out.cell 0 _ rfl
      have r1 := HF.out.cell 1 _ rfl
      have r2 := HF.out.cell 2 _ rfl
      have r3 := HF.out.cell 3 _ rfl
      have r4 := HF.out.cell 4 _ rfl
      have r5 := HF.out.cell 5 _ rfl
      have r6 := HF.out.cell 6 _ rfl
      have r7 := HF.out.cell 7 _ rfl
      have r8 := HF.out.cell 8 _ rfl
      have r9 := HF.out.cell 9 _ rfl
      refine bodyPost_ret (v := .tuple #[.agg #[.int .i64 0, .int .i64 0, .string ⟨#[]⟩, .string ⟨#[]⟩, .string ⟨#[]⟩, .int .i64 0, .int .i64 0, .int .i64 0, .int .i64 0, .slice none 0 0], .int .i64 0, .int .i64 2]) (by simp [results, Try.results106, go_sem, r0, r1, r2, r3, r4, r5, r6, r7, r8, r9]) rfl ?_
      rw [HR.out]
      exact ⟨rfl, HFB.out⟩
  · obtain ⟨r, hrr⟩ : ∃ r, strOfNums (inTag 1 1 (byt ⟨#[]⟩) (byt v)) = r := ⟨_, rfl⟩
    have hr : inKey b s = some (⟨1, 1, inTag 1 1 [] (byt v), [], byt v, s, s + m, s, s, []⟩, s + m) := by rw [rKey_eq b s HS.out, HK.out]; exact if_neg hbad
    have HR := Lib.hid hr
    have HRR := Lib.hid hrr
    have hd1 : ¬ (m : Int) = 0 := by omega
    have hd2 : ¬ (128 : Int) < (m : Int) := by omega
    clear hr hbad hrr
    have x6 := HX.out.cell 6 _ rfl
    have f6 := HX.out.frozen 6
    have HX5 := Lib.hid (HX.out.set 6 (.int .i64 ((s : Int) + (m : Int))))
    have HZ5 := Lib.hid (HZ.out.other HN.out.symm 6 (.int .i64 ((s : Int) + (m : Int))))
    have HV5 : Hid (Below w.heap.size w (V3.setCell ⟨gx, 6, none⟩ (.int .i64 ((s : Int) + (m : Int))))) := HV.out.setCell (p := ⟨gx, 6, none⟩) hwx _
    go_upto_region 15 with fail
    generalize V3.setCell ⟨gx, 6, none⟩ (.int .i64 ((s : Int) + (m : Int))) = V5 at *
    have x0 := HX5.out.cell 0 _ rfl
    have x1 := HX5.out.cell 1 _ rfl
    have x4 := HX5.out.cell 4 _ rfl
    clear x6 f6 HX HZ HV
    go_wp2_with fail
    refine (rtag_at (w := V5) (W := V5) (Below.refl _ _) 1 1 ⟨#[]⟩ v (by omega) r HRR.out).mono ?_
    rintro e W6 ⟨rfl, hb6⟩
    have HX6 := Lib.hid (HX5.out.below hb6)
    have x2 := HX6.out.cell 2 _ rfl
    have f2 := HX6.out.frozen 2
    have HX7 := Lib.hid (HX6.out.set 2 (.string r))
    have HZ7 := Lib.hid ((HZ5.out.below hb6).other HN.out.symm 2 (.string r))
    have HV7 : Hid (Below w.heap.size w (W6.setCell ⟨gx, 2, none⟩ (.string r))) := (below_step HV5.out hb6).setCell (p := ⟨gx, 2, none⟩) hwx _
    clear x0 x1 x4 hb6 HX5 HZ5 HV5
    go_upto_region 16 with fail
    generalize W6.setCell ⟨gx, 2, none⟩ (.string r) = V7 at *
    clear x2 f2 HX6
    have x0 := HX7.out.cell 0 _ rfl
    have x1 := HX7.out.cell 1 _ rfl
    have x2 := HX7.out.cell 2 _ rfl
    have x3 := HX7.out.cell 3 _ rfl
    have x4 := HX7.out.cell 4 _ rfl
    have x5 := HX7.out.cell 5 _ rfl
    have x6 := HX7.out.cell 6 _ rfl
    have x7 := HX7.out.cell 7 _ rfl
    have x8 := HX7.out.cell 8 _ rfl
    have x9 := HX7.out.cell 9 _ rfl
    have z0 := HZ7.out.cell 0 _ rfl
    have fz0 := HZ7.out.frozen 0
    have z1 := HZ7.out.cell 1 _ rfl
    have fz1 := HZ7.out.frozen 1
    have z2 := HZ7.out.cell 2 _ rfl
    have fz2 := HZ7.out.frozen 2
    have z3 := HZ7.out.cell 3 _ rfl
    have fz3 := HZ7.out.frozen 3
    have z4 := HZ7.out.cell 4 _ rfl
    have fz4 := HZ7.out.frozen 4
    have z5 := HZ7.out.cell 5 _ rfl
    have fz5 := HZ7.out.frozen 5
    have z6 := HZ7.out.cell 6 _ rfl
    have fz6 := HZ7.out.frozen 6
    have z7 := HZ7.out.cell 7 _ rfl
    have fz7 := HZ7.out.frozen 7
    have z8 := HZ7.out.cell 8 _ rfl
    have fz8 := HZ7.out.frozen 8
    have z9 := HZ7.out.cell 9 _ rfl
    have fz9 := HZ7.out.frozen 9
    have HZ8 : Hid (Box V7.drew gz [.int .i64 0, .int .i64 0, .string ⟨#[]⟩, .string ⟨#[]⟩, .string ⟨#[]⟩, .int .i64 0, .int .i64 0, .int .i64 0, .int .i64 0, .slice none 0 0]) := HZ7.out.below (Below.refl _ _).drew
    have HV8 : Hid (Below w.heap.size w V7.drew) := HV7.out.drew
    have HX8 : Hid (∀ V, Box V gx [.int .i64 1, .int .i64 1, .string r, .string ⟨#[]⟩, .string v, .int .i64 (s : Int), .int .i64 ((s : Int) + (m : Int)), .int .i64 (s : Int), .int .i64 (s : Int), .slice none 0 0] → V.cell? ⟨gx, 0, none⟩ = some (.int .i64 1) ∧ V.cell? ⟨gx, 1, none⟩ = some (.int .i64 1) ∧ V.cell? ⟨gx, 2, none⟩ = some (.string r) ∧ V.cell? ⟨gx, 3, none⟩ = some (.string ⟨#[]⟩) ∧ V.cell? ⟨gx, 4, none⟩ = some (.string v) ∧ V.cell? ⟨gx, 5, none⟩ = some (.int .i64 (s : Int)) ∧ V.cell? ⟨gx, 6, none⟩ = some (.int .i64 ((s : Int) + (m : Int))) ∧ V.cell? ⟨gx, 7, none⟩ = some (.int .i64 (s : Int)) ∧ V.cell? ⟨gx, 8, none⟩ = some (.int .i64 (s : Int)) ∧ V.cell? ⟨gx, 9, none⟩ = some (.slice none 0 0)) := fun V h => ⟨h.cell 0 _ rfl, h.cell 1 _ rfl, h.cell 2 _ rfl, h.cell 3 _ rfl, h.cell 4 _ rfl, h.cell 5 _ rfl, h.cell 6 _ rfl, h.cell 7 _ rfl, h.cell 8 _ rfl, h.cell 9 _ rfl⟩
    have HXS : Hid (Box V7.drew gx [.int .i64 1, .int .i64 1, .string r, .string ⟨#[]⟩, .string v, .int .i64 (s : Int), .int .i64 ((s : Int) + (m : Int)), .int .i64 (s : Int), .int .i64 (s : Int), .slice none 0 0]) := HX7.out.below (Below.refl _ _).drew
    obtain ⟨VF, hVF⟩ : ∃ VF, ((((((((((V7.drew.setCell ⟨gz, 0, none⟩ (.int .i64 1)).setCell ⟨gz, 1, none⟩ (.int .i64 1)).setCell ⟨gz, 2, none⟩ (.string r)).setCell ⟨gz, 3, none⟩ (.string ⟨#[]⟩)).setCell ⟨gz, 4, none⟩ (.string v)).setCell ⟨gz, 5, none⟩ (.int .i64 (s : Int))).setCell ⟨gz, 6, none⟩ (.int .i64 ((s : Int) + (m : Int)))).setCell ⟨gz, 7, none⟩ (.int .i64 (s : Int))).setCell ⟨gz, 8, none⟩ (.int .i64 (s : Int))).setCell ⟨gz, 9, none⟩ (.slice none 0 0)) = VF := ⟨_, rfl⟩
    have HF : Hid (Box VF gz [.int .i64 1, .int .i64 1, .string r, .string ⟨#[]⟩, .string v, .int .i64 (s : Int), .int .i64 ((s : Int) + (m : Int)), .int .i64 (s : Int), .int .i64 (s : Int), .slice none 0 0]) := by show Box VF gz _; rw [← hVF]; exact HZ8.out.set10 rfl _ _ _ _ _ _ _ _ _ _
    have HFB : Hid (Below w.heap.size w VF) := by show Below w.heap.size w VF; rw [← hVF]; exact below10 HV8.out hwz _ _ _ _ _ _ _ _ _ _
    have HVF := Lib.hid hVF
    clear hVF
    have HXF : Hid (Box VF gx [.int .i64 1, .int .i64 1, .string r, .string ⟨#[]⟩, .string v, .int .i64 (s : Int), .int .i64 ((s : Int) + (m : Int)), .int .i64 (s : Int), .int .i64 (s : Int), .slice none 0 0]) := by
      show Box VF gx _
      rw [← HVF.out]
      exact ((((((((((HXS.out.other HN.out 0 _).other HN.out 1 _).other HN.out 2 _).other HN.out 3 _).other HN.out 4 _).other HN.out 5 _).other HN.out 6 _).other HN.out 7 _).other HN.out 8 _).other HN.out 9 _)
    clear x0 x1 x2 x3 x4 x5 x6 x7 x8 x9 z0 z1 z2 z3 z4 z5 z6 z7 z8 z9 fz0 fz1 fz2 fz3 fz4 fz5 fz6 fz7 fz8 fz9 HX8
    refine gen_act fun a0 hA => ?_
    have hsz : a0.tmps.size = 92 := by rw [hA]; rfl
    have e4 : a0.eval (.tmp 4) = .pointer (some ⟨gz, 0, none⟩) := by rw [hA]; rfl
    have e7 : a0.eval (.tmp 7) = .pointer (some ⟨gx, 0, none⟩) := by rw [hA]; rfl
    refine region_gate (fun V => Box V gx [.int .i64 1, .int .i64 1, .string r, .string ⟨#[]⟩, .string v, .int .i64 (s : Int), .int .i64 ((s : Int) + (m : Int)), .int .i64 (s : Int), .int .i64 (s : Int), .slice none 0 0]) 4 (by kernel_rfl) ?_
    change wpGate _ _ _ _ _ _ 6 _ _ _
    refine gate_take0 (i := 1) (v := .pointer (some ⟨gx, 6, none⟩)) rfl (by rfl) (by kernel_rfl) (by kernel_rfl) (by kernel_rfl) (fun _ _ _ h => h) rfl (fun V => field6_exec _ (.tmp 7) rfl _ V gx e7) HXS.out ?_
    refine gate_take (i := 0) (v := .agg #[.int .i64 1, .int .i64 1, .string r, .string ⟨#[]⟩, .string v, .int .i64 (s : Int), .int .i64 ((s : Int) + (m : Int)), .int .i64 (s : Int), .int .i64 (s : Int), .slice none 0 0]) rfl (by rfl) (by kernel_rfl) (by kernel_rfl) (by kernel_rfl) (by kernel_rfl) (by kernel_rfl) (fun _ _ _ h => h) rfl (fun V hV => load10 _ (.tmp 7) rfl _ V gx _ _ _ _ _ _ _ _ _ _ (by simp [evp_ne, e7]) hV) HXS.out ?_
    refine gate_take (i := 2) (v := .int .i64 ((s : Int) + (m : Int))) rfl (by rfl) (by kernel_rfl) (by kernel_rfl) (by kernel_rfl) (by kernel_rfl) (by kernel_rfl) (fun _ _ _ h => h) rfl (fun V hV => by
      have c6 := hV.cell 6 _ rfl
      have e90 : ((a0.put (some 90) (.pointer (some ⟨gx, 6, none⟩))).put (some 89) (.agg #[.int .i64 1, .int .i64 1, .string r, .string ⟨#[]⟩, .string v, .int .i64 (s : Int), .int .i64 ((s : Int) + (m : Int)), .int .i64 (s : Int), .int .i64 (s : Int), .slice none 0 0])).eval (.tmp 90) = .pointer (some ⟨gx, 6, none⟩) := by simp [evp_same, evp_ne, szp, hsz]
      exact loadI_exec _ (.tmp 90) rfl _ V _ _ e90 c6) HXS.out ?_
    refine gate_one (i := 3) (by kernel_rfl) ?_
    refine wpOp_skip (w' := VF) rfl rfl (by rw [← HVF.out]; exact store10 _ (.tmp 4) (.tmp 89) rfl _ V7.drew gz _ rfl _ _ _ _ _ _ _ _ _ _ (by simp [evp_ne, e4]) (by simp [evp_same, evp_ne, szp, hsz]) (by simp [Value.oneCell']) HZ8.out) ⟨fun _ => HXF.out, ?_⟩
    refine gate_one (i := 4) (by kernel_rfl) ?_
    refine wpOp_value (w' := VF) (v := .int .i64 ((s : Int) + (m : Int))) rfl rfl (by simp [execOp, kput_none, evp_same, evp_ne, szp, hsz]) ⟨fun _ => HXF.out, ?_⟩
    refine gate_one (i := 5) (by kernel_rfl) ?_
    refine wpOp_value (w' := VF) (v := .int .i64 0) rfl rfl (by simp [execOp]; rfl) ⟨fun _ => HXF.out, ?_⟩
    refine gate_done (by kernel_rfl) ?_ _
    subst hA
    clear hsz e4 e7
    go_wp2_with fail
    simp only [Act.put, List.setIfInBounds_toArray, List.set_cons_zero, List.set_cons_succ]
    have r0 := HF.out.cell 0 _ rfl
    have r1 := HF.out.cell 1 _ rfl
    have r2 := HF.out.cell 2 _ rfl
    have r3 := HF.out.cell 3 _ rfl
    have r4 := HF.out.cell 4 _ rfl
    have r5 := HF.out.cell 5 _ rfl
    have r6 := HF.out.cell 6 _ rfl
    have r7 := HF.out.cell 7 _ rfl
    have r8 := HF.out.cell 8 _ rfl
    have r9 := HF.out.cell 9 _ rfl
    refine bodyPost_ret (v := .tuple #[.agg #[.int .i64 1, .int .i64 1, .string r, .string ⟨#[]⟩, .string v, .int .i64 (s : Int), .int .i64 ((s : Int) + (m : Int)), .int .i64 (s : Int), .int .i64 (s : Int), .slice none 0 0], .int .i64 ((s : Int) + (m : Int)), .int .i64 0]) (by simp [results, Try.results106, go_sem, r0, r1, r2, r3, r4, r5, r6, r7, r8, r9]) rfl ?_
    rw [HR.out]
    have e : ((s + m : Nat) : Int) = (s : Int) + (m : Int) := by omega
    have er : strOfNums (inTag 1 1 [] (byt v)) = r := HRR.out
    refine ⟨?_, HFB.out⟩
    simp only [ndC, List.toArray, e, er, strOfNums_byt]
    rfl
end
section
variable {w W : World} {A : Option Addr} {n c s : Nat} {b : List Int}
set_option maxHeartbeats 8000000 in
theorem rkeyN_at (E : REnv w A n c b) (hw : Below w.heap.size w W) (hs : s ≤ n) (hlt : n ≤ s) :
    Calls Try.prog 106 #[.slice A n c, .int .i64 (s : Int)] W (RKeyP w (inKey b s)) := by
  have HK0 : Hid (rKey b s = (1, (b.drop s).take (lenF (b.drop s) true), lenF (b.drop s) true)) := by
    have h0 : b.getD s 0 = 0 := by simp [List.getD, List.getElem?_eq_none (show b.length ≤ s by rw [E.len]; omega)]
    show _ = _; unfold rKey; rw [if_neg (by rw [h0]; decide), if_neg (by rw [h0]; decide)]
  have hnc := E.le
  have hm := E.cap
  have hn := E.small
  obtain ⟨A', hsl, hA', hrd⟩ := slice_l A n c s b E.len hnc E.nil hs
  have d1 : decide ((s : Int) < (n : Int)) = false := decide_eq_false (by omega)
  have d2 : ¬ (s : Int) < (n : Int) := by omega
  have HE := Lib.hid E
  have HS : Hid (s ≤ b.length) := by show s ≤ b.length; rw [E.len]; exact hs
  have HRD := Lib.hid hrd
  have HA := Lib.hid hA'
  have HW := Lib.hid hw
  clear E hw hrd hA'
  go_enter Try.func106, Try.ntmps106
  go_upto_region 6 with fail
  obtain ⟨W1, hW1⟩ : ∃ W1, W.alloc (.cells #[.int .i64 0, .int .i64 0, .string ⟨#[]⟩, .string ⟨#[]⟩, .string ⟨#[]⟩, .int .i64 0, .int .i64 0, .int .i64 0, .int .i64 0, .slice none 0 0] 41) = W1 := ⟨_, rfl⟩
  obtain ⟨gz, hgz⟩ : ∃ g, W.heap.size = g := ⟨_, rfl⟩
  have bz : Box W1 gz [.int .i64 0, .int .i64 0, .string ⟨#[]⟩, .string ⟨#[]⟩, .string ⟨#[]⟩, .int .i64 0, .int .i64 0, .int .i64 0, .int .i64 0, .slice none 0 0] := by rw [← hW1, ← hgz]; exact Box.new W _
  have hb1 : Below W.heap.size W W1 := by rw [← hW1]; exact (Below.refl _ _).alloc (Nat.le_refl _) _
  rw [hW1, hgz]
  obtain ⟨W2, hW2⟩ : ∃ W2, W1.alloc (.cells #[.int .i64 1, .int .i64 0, .string ⟨#[]⟩, .string ⟨#[]⟩, .string ⟨#[]⟩, .int .i64 (s : Int), .int .i64 0, .int .i64 (s : Int), .int .i64 (s : Int), .slice none 0 0] 41) = W2 := ⟨_, rfl⟩
  have hs1 : W1.heap.size = gz + 1 := by rw [← hW1, ← hgz]; simp
  obtain ⟨gx, hgx⟩ : ∃ g, gz + 1 = g := ⟨_, rfl⟩
  have bx : Box W2 gx [.int .i64 1, .int .i64 0, .string ⟨#[]⟩, .string ⟨#[]⟩, .string ⟨#[]⟩, .int .i64 (s : Int), .int .i64 0, .int .i64 (s : Int), .int .i64 (s : Int), .slice none 0 0] := by rw [← hW2, ← hgx, ← hs1]; exact Box.new W1 _
  have hb2 : Below W1.heap.size W1 W2 := by rw [← hW2]; exact (Below.refl _ _).alloc (Nat.le_refl _) _
  rw [hW2, hgx]
  have hlt2 := bz.lt
  have HN : Hid (gx ≠ gz) := by show gx ≠ gz; omega
  have hwz : w.heap.size ≤ gz := by rw [← hgz]; exact HW.out.size
  have hwx : w.heap.size ≤ gx := by omega
  have HZ2 := Lib.hid (bz.below hb2)
  have HX2 := Lib.hid bx
  have HV2 : Hid (Below w.heap.size w W2) := (below_step HW.out hb1).trans (hb2.mono (below_step HW.out hb1).size)
  clear hs1 hW1 hgz hW2 hgx bz bx hb1 hb2 hlt2
  have y1 := HX2.out.cell 1 _ rfl
  have fy1 := HX2.out.frozen 1
  go_wp2_with fail
  have HX3 := Lib.hid (HX2.out.set 1 (.int .i64 1))
  have HZ3 := Lib.hid (HZ2.out.other HN.out.symm 1 (.int .i64 1))
  have HV3 : Hid (Below w.heap.size w (W2.setCell ⟨gx, 1, none⟩ (.int .i64 1))) := HV2.out.setCell (p := ⟨gx, 1, none⟩) hwx _
  generalize W2.setCell ⟨gx, 1, none⟩ (.int .i64 1) = W3 at *
  clear HX2 HZ2 HV2 y1 fy1
  obtain ⟨m, hmm⟩ : ∃ m, lenF (b.drop s) true = m := ⟨_, rfl⟩
  have hmz : s + m ≤ n := by
    have := len_le (b.drop s) true
    rw [List.length_drop, HE.out.len, hmm] at this
    omega
  refine (refLength_any A' 0 (c - s) (b.drop s) true W3 (by rw [List.length_drop, HE.out.len]; omega) (by omega) (by omega) (HE.out.byte.drop s) (HRD.out _ (HE.out.rd.below HV3.out)) m hmm).mono ?_
  rintro e W4 ⟨rfl, rfl⟩
  obtain ⟨A2, hsl2, _, hrd2⟩ := slice_lh A n c s (s + m) b HE.out.len HE.out.le HE.out.nil (by omega) hmz
  rw [show s + m - s = m by omega] at hsl2 hrd2
  have hsl3 : ∀ W, (Instr.slice 96 (.slice A n c) (some (.int .i64 (s : Int))) (some (.int .i64 ((s : Int) + (m : Int)))) none).run Try.prog W = .ok (.slice A2 m (c - s)) W := fun W => by
    rw [show (s : Int) + (m : Int) = ((s + m : Nat) : Int) by omega]; exact hsl2 W
  have hstr : (convert 96 9 (.slice A2 m (c - s))).run Try.prog W3 = .ok (.string (strOfNums ((b.drop s).take m))) W3 := run_string_rd W3 A2 m (c - s) _ (by rw [List.length_take, List.length_drop, HE.out.len]; omega) (hrd2 _ (HE.out.rd.below HV3.out))
  obtain ⟨v, hv⟩ : ∃ v, strOfNums ((b.drop s).take m) = v := ⟨_, rfl⟩
  have hvb : byt v = (b.drop s).take m := by rw [← hv]; exact byt_strOfNums _ ((HE.out.byte.drop s).take m)
  have HK : Hid (rKey b s = (1, byt v, m)) := by show _ = _; rw [HK0.out, hmm, hvb]
  have hvz : v.size ≤ 400000 := by rw [← byt_len, hvb, List.length_take, List.length_drop, HE.out.len]; omega
  rw [hv] at hstr
  clear hv hvb hmm hsl2 hrd2
  have y4 := HX3.out.cell 4 _ rfl
  have fy4 := HX3.out.frozen 4
  go_upto_region 12 with fail
  have HX := Lib.hid (HX3.out.set 4 (.string v))
  have HZ := Lib.hid (HZ3.out.other HN.out.symm 4 (.string v))
  have HV : Hid (Below w.heap.size w (W3.setCell ⟨gx, 4, none⟩ (.string v))) := HV3.out.setCell (p := ⟨gx, 4, none⟩) hwx _
  generalize W3.setCell ⟨gx, 4, none⟩ (.string v) = V3 at *
  clear HX3 HZ3 HV3 y4 fy4 hstr hsl3
  have hr : inKey b s = none := by rw [rKey_eq b s HS.out, HK.out]; exact if_pos (.inl (by show m = 0; omega))
  have HR := Lib.hid hr
  obtain rfl : m = 0 := by omega
  clear hr
  have z0 := HZ.out.cell 0 _ rfl
  have fz0 := HZ.out.frozen 0
  have z1 := HZ.out.cell 1 _ rfl
  have fz1 := HZ.out.frozen 1
  have z2 := HZ.out.cell 2 _ rfl
  have fz2 := HZ.out.frozen 2
  have z3 := HZ.out.cell 3 _ rfl
  have fz3 := HZ.out.frozen 3
  have z4 := HZ.out.cell 4 _ rfl
  have fz4 := HZ.out.frozen 4
  have z5 := HZ.out.cell 5 _ rfl
  have fz5 := HZ.out.frozen 5
  have z6 := HZ.out.cell 6 _ rfl
  have fz6 := HZ.out.frozen 6
  have z7 := HZ.out.cell 7 _ rfl
  have fz7 := HZ.out.frozen 7
  have z8 := HZ.out.cell 8 _ rfl
  have fz8 := HZ.out.frozen 8
  have z9 := HZ.out.cell 9 _ rfl
  have fz9 := HZ.out.frozen 9
  simp only [show ((0 : Nat) : Int) = 0 from rfl]
  obtain ⟨VF, hVF⟩ : ∃ VF, ((((((((((V3.setCell ⟨gz, 0, none⟩ (.int .i64 0)).setCell ⟨gz, 1, none⟩ (.int .i64 0)).setCell ⟨gz, 2, none⟩ (.string ⟨#[]⟩)).setCell ⟨gz, 3, none⟩ (.string ⟨#[]⟩)).setCell ⟨gz, 4, none⟩ (.string ⟨#[]⟩)).setCell ⟨gz, 5, none⟩ (.int .i64 0)).setCell ⟨gz, 6, none⟩ (.int .i64 0)).setCell ⟨gz, 7, none⟩ (.int .i64 0)).setCell ⟨gz, 8, none⟩ (.int .i64 0)).setCell ⟨gz, 9, none⟩ (.slice none 0 0)) = VF := ⟨_, rfl⟩
  have HF : Hid (Box VF gz [.int .i64 0, .int .i64 0, .string ⟨#[]⟩, .string ⟨#[]⟩, .string ⟨#[]⟩, .int .i64 0, .int .i64 0, .int .i64 0, .int .i64 0, .slice none 0 0]) := by show Box VF gz _; rw [← hVF]; exact HZ.out.set10 rfl _ _ _ _ _ _ _ _ _ _
  have HFB : Hid (Below w.heap.size w VF) := by show Below w.heap.size w VF; rw [← hVF]; exact below10 HV.out hwz _ _ _ _ _ _ _ _ _ _
  have HVF := Lib.hid hVF
  clear hVF
  go_wp2_with fail
  rw [HVF.out]
  have r0 := HF.out.cell 0 _ rfl
  have r1 := HF.out.cell 1 _ rfl
  have r2 := HF.out.cell 2 _ rfl
  have r3 := HF.out.cell 3 _ rfl
  have r4 := HF.out.cell 4 _ rfl
  have r5 := HF.out.cell 5 _ rfl
  have r6 := HF.out.cell 6 _ rfl
  have r7 := HF.out.cell 7 _ rfl
  have r8 := HF.out.cell 8 _ rfl
  have r9 := HF.out.cell 9 _ rfl
  refine bodyPost_ret (v := .tuple #[.agg #[.int .i64 0, .int .i64 0, .string ⟨#[]⟩, .string ⟨#[]⟩, .string ⟨#[]⟩, .int .i64 0, .int .i64 0, .int .i64 0, .int .i64 0, .slice none 0 0], .int .i64 0, .int .i64 2]) (by simp [results, Try.results106, go_sem, r0, r1, r2, r3, r4, r5, r6, r7, r8, r9]) rfl ?_
  rw [HR.out]
  exact ⟨rfl, HFB.out⟩
theorem rkey_at (E : REnv w A n c b) (hw : Below w.heap.size w W) (hs : s ≤ n) :
    Calls Try.prog 106 #[.slice A n c, .int .i64 (s : Int)] W (RKeyP w (inKey b s)) := by
  by_cases h1 : b.getD s 0 = 34
  · exact rkeyD_at E hw hs h1
  · by_cases h2 : b.getD s 0 = 39
    · exact rkeyS_at E hw hs h2
    · by_cases h3 : n ≤ s
      · exact rkeyN_at E hw hs h3
      · exact rkeyP_at E hw hs (by omega) h1 h2
end
/-- What the document's reader of a node leaves: a list in new memory. -/
def RNodeP (W : World) (r : InR) (e : Ending) (W' : World) : Prop :=
  match r with
  | .error q => e = .returned (.tuple #[.slice none 0 0, .int .i64 0, .int .i64 q]) ∧ Below W.heap.size W W' ∧ q ≠ 0
  | .ok (l, m) => ∃ v P, e = .returned (.tuple #[v, .int .i64 (m : Int), .int .i64 0]) ∧ Nds W.heap.size W' v P ∧ lst P = l ∧ Below W.heap.size W W'
def RNodeC (w : World) (A : Option Addr) (n c : Nat) (b : List Int) (f : Nat) : Prop :=
  ∀ (W : World) (s : Nat) (fl : Bool) (d : Int), Below w.heap.size w W → s ≤ n → 0 ≤ d → d ≤ 1000 → (64 - d).toNat = f →
    Calls Try.prog 75 #[.slice A n c, .int .i64 (s : Int), .bool fl, .int .i64 d] W (RNodeP W (inNode f b fl s 0))
/-- Behind an entry. -/
def Aft (ent : Nat → Nat → InE) (b : List Int) (c : Int) (g n base : Nat) (ks : List Nat) (bl : List Nd) : InE :=
  if b.getD (inBlk b n) 0 = c then .ok (ks, bl, inBlk b n + 1)
  else if b.getD (inBlk b n) 0 = 44 then inLoop ent b c g (inBlk b (inBlk b n + 1)) base ks bl
  else .error 2
theorem rloop_succ (ent : Nat → Nat → InE) (b : List Int) (c : Int) (g s base : Nat) (ks : List Nat) (bl : List Nd) : inLoop ent b c (g + 1) s base ks bl = (match ent s base with
    | .error e => .error e
    | .ok (k, l, n) => Aft ent b c g n (base + l.length) (ks ++ k) (bl ++ l)) := by
  rw [inLoop]
  cases ent s base with
  | error e => rfl
  | ok y => rfl
theorem blk_idem (b : List Int) (s : Nat) : inBlk b (inBlk b s) = inBlk b s := by
  have key : ∀ l : List Int, blkF (l.drop (blkF l)) = 0 := by
    intro l
    induction l with
    | nil => rfl
    | cons x t ih =>
      rw [blk_cons]
      split
      · rw [List.drop_succ_cons]; exact ih
      · rename_i hx
        rw [List.drop_zero, blk_cons, if_neg hx]
  unfold inBlk
  rw [← List.drop_drop, key]
  rfl
/-- The list behind the entries so far: the collection's own node ahead of it. -/
def InsP (W : World) (x : Nd) (r : InE) (e : Ending) (W' : World) : Prop :=
  match r with
  | .error q => e = .returned (.tuple #[.slice none 0 0, .int .i64 0, .int .i64 q]) ∧ Below W.heap.size W W' ∧ q ≠ 0
  | .ok (ks, l, m) => ∃ v P, e = .returned (.tuple #[v, .int .i64 (m : Int), .int .i64 0]) ∧ Nds W.heap.size W' v P ∧ lst P = { x with kids := ks, en := m } :: l ∧ Below W.heap.size W W'
theorem Nd.hm_eq (y : Nd) (k : Nat) (h1 : y.hd = k) (h2 : y.mr = k) : ({ y with hd := k, mr := k } : Nd) = y := by
  subst h1
  cases y
  simp only at h2
  subst h2
  rfl
theorem Nd.se_eq (y : Nd) (k l : Nat) (h1 : y.st = k) (h2 : y.en = l) : ({ y with st := k, en := l } : Nd) = y := by
  subst h1 h2
  rfl
theorem own_low {B B' : Nat} {W : World} {e : TypeId} {size n : Nat} {v : Value} {xs : List Value} (h : W.ownsRow B e size v n xs) (hB : B' ≤ B) : W.ownsRow B' e size v n xs := by
  refine ⟨h.1, ?_⟩
  rcases h.2 with h0 | ⟨g, cap, cur, hv, hb, hr⟩
  · exact .inl h0
  · exact .inr ⟨g, cap, cur, hv, Nat.le_trans hB hb, hr⟩
theorem Nds.low {B B' : Nat} {W : World} {v : Value} {P : List NK} (h : Nds B W v P) (hB : B' ≤ B) : Nds B' W v P := ⟨own_low h.row hB, fun i p hp => own_low (h.kid i p hp) hB, h.apart, h.off⟩
section
variable {B : Nat} {W : World} {P : List NK} {p : NK} {g m cap : Nat}
theorem Nds.endAt (h : Nds B W (.slice (some ⟨g, 0, none⟩) m cap) (p :: P)) (hm : (p :: P).length = m) (z : Nat) (u : Int) (hu : u = z) :
    W.cell? ⟨g, 6, none⟩ = some (.int .i64 (p.1.en : Int)) ∧ W.frozen? ⟨g, 6, none⟩ = false ∧ Nds B (W.setCell ⟨g, 6, none⟩ (.int .i64 u)) (.slice (some ⟨g, 0, none⟩) m cap) (({ p.1 with en := z }, p.2) :: P) := by
  subst hm hu
  refine ⟨h.cell (i := 0) (p := p) rfl 6 _ rfl, h.frozen 6, ?_⟩
  have := h.set (i := 0) (p := p) (p' := ({ p.1 with en := z }, p.2)) rfl 6 (by omega) (.int .i64 (z : Int)) (by simp [ndC]) rfl rfl
  simpa using this
theorem Nds.headMark (h : Nds B W (.slice (some ⟨g, 0, none⟩) m cap) (p :: P)) (hm : (p :: P).length = m) (a d : Nat) :
    Nds B ((W.setCell ⟨g, 7, none⟩ (.int .i64 (a : Int))).setCell ⟨g, 8, none⟩ (.int .i64 (d : Int))) (.slice (some ⟨g, 0, none⟩) m cap) (({ p.1 with hd := a, mr := d }, p.2) :: P) := by
  subst hm
  have h7 := h.set (i := 0) (p := p) (p' := ({ p.1 with hd := a }, p.2)) rfl 7 (by omega) (.int .i64 (a : Int)) (by simp [ndC]) rfl rfl
  simp only [List.set_cons_zero, Nat.zero_mul, Nat.zero_add] at h7
  have h8 := h7.set (i := 0) (p := ({ p.1 with hd := a }, p.2)) (p' := ({ p.1 with hd := a, mr := d }, p.2)) rfl 8 (by omega) (.int .i64 (d : Int)) (by simp [ndC]) rfl rfl
  simpa using h8
theorem Nds.spots (h : Nds B W (.slice (some ⟨g, 0, none⟩) m cap) (p :: P)) (hm : (p :: P).length = m) (a d : Nat) :
    Nds B ((W.setCell ⟨g, 5, none⟩ (.int .i64 (a : Int))).setCell ⟨g, 6, none⟩ (.int .i64 (d : Int))) (.slice (some ⟨g, 0, none⟩) m cap) (({ p.1 with st := a, en := d }, p.2) :: P) := by
  subst hm
  have h7 := h.set (i := 0) (p := p) (p' := ({ p.1 with st := a }, p.2)) rfl 5 (by omega) (.int .i64 (a : Int)) (by simp [ndC]) rfl rfl
  simp only [List.set_cons_zero, Nat.zero_mul, Nat.zero_add] at h7
  have h8 := h7.set (i := 0) (p := ({ p.1 with st := a }, p.2)) (p' := ({ p.1 with st := a, en := d }, p.2)) rfl 6 (by omega) (.int .i64 (d : Int)) (by simp [ndC]) rfl rfl
  simpa using h8
end
/-- A collection's node. -/
def rcN (kd : Int) (tg an : List Int) (st0 : Nat) : InE → InR
  | .error e => .error e
  | .ok (ks, l, m) => .ok (⟨kd, 7, inTag kd 7 tg [], an, [], st0, m, st0, st0, ks⟩ :: l, m)
def rcK (kd : Int) : InE → Except Int (Nd × List Nd × Nat)
  | .error e => .error e
  | .ok (ks, l, m) => .ok ({ Nd.nil with kind := kd, style := 7, kids := ks }, l, m)
theorem build1_exec (o : Oper) (x : Operand) (ho : o.op = .buildSlice 26 1 #[(0, x)]) (a : Act) (V : World) (v0 v1 v2 v3 v4 v5 v6 v7 v8 v9 : Value) (hx : a.eval x = .agg #[v0, v1, v2, v3, v4, v5, v6, v7, v8, v9]) :
    (execOp a.eval o).run Try.prog V = .ok (.value (.slice (some ⟨V.heap.size, 0, none⟩) 1 1)) (V.alloc (.cells #[v0, v1, v2, v3, v4, v5, v6, v7, v8, v9] 41)) := by
  generalize a.eval = ev at hx ⊢
  unfold execOp
  simp only [ho]
  simp [go_sem, hx]
/-- A scalar in quotes. -/
def rcQ (sty : Int) (s2 : Nat) : Option (List Int × Nat) → Except Int (Nd × List Nd × Nat)
  | none => .error 2
  | some x => .ok ({ Nd.nil with kind := 1, style := sty, value := x.1 }, [], s2 + x.2)
theorem contR_byte {b : List Int} (hb : Byte b) {child : Nat → Nat → InR} {deep fl : Bool} {s base : Nat} {x : Nd} {l : List Nd} {m : Nat} (h : inCont child deep b fl s base = .ok (x, l, m)) : Byte x.value ∧ x.value.length ≤ 4 * b.length := by
  unfold inCont at h
  split at h
  · split at h
    · simp only [Except.ok.injEq, Prod.mk.injEq] at h
      obtain ⟨rfl, _, _⟩ := h
      show Byte (Pr.aliasF (b.drop s)).1 ∧ (Pr.aliasF (b.drop s)).1.length ≤ 4 * b.length
      unfold Pr.aliasF
      split
      · rename_i hc
        simp only [Bool.and_eq_true] at hc
        rw [Pr.cut_drop _ _ hc.1]
        refine ⟨((hb.drop s).drop 1).take _, ?_⟩
        rw [List.length_take, List.length_drop, List.length_drop]; omega
      · exact ⟨fun z hz => (by cases hz), by simp⟩
    · cases h
  · have nilv : Byte ([] : List Int) ∧ ([] : List Int).length ≤ 4 * b.length := ⟨fun z hz => (by cases hz), by simp⟩
    split at h
    · split at h
      · cases h
      · cases hc : inColl (inItem child) b 93 s base with
        | error e => rw [hc] at h; cases h
        | ok y =>
          obtain ⟨ks, l', n'⟩ := y
          rw [hc] at h
          simp only [Except.ok.injEq, Prod.mk.injEq] at h
          obtain ⟨rfl, _, _⟩ := h
          exact nilv
    · split at h
      · split at h
        · cases h
        · cases hc : inColl (inPair child b) b 125 s base with
          | error e => rw [hc] at h; cases h
          | ok y =>
            obtain ⟨ks, l', n'⟩ := y
            rw [hc] at h
            simp only [Except.ok.injEq, Prod.mk.injEq] at h
            obtain ⟨rfl, _, _⟩ := h
            exact nilv
      · cases hl : inLeaf b fl s with
        | none => rw [hl] at h; cases h
        | some y =>
          obtain ⟨k, st, v, n⟩ := y
          rw [hl] at h
          simp only [Except.ok.injEq, Prod.mk.injEq] at h
          obtain ⟨rfl, _, _⟩ := h
          exact leaf_byte hb hl
section
variable {w W : World} {A : Option Addr} {n c s k s2 : Nat} {b tg an : List Int} {fl : Bool} {d : Int} {child : Nat → Nat → InR} {deep : Bool}
set_option maxHeartbeats 8000000 in
theorem rnodeBad_at (E : REnv w A n c b) (hw : Below w.heap.size w W) (hs : s ≤ n) (hk : (Pr.takeP (b.drop s)).2.2.2 = false) :
    Calls Try.prog 75 #[.slice A n c, .int .i64 (s : Int), .bool fl, .int .i64 d] W (RNodeP W (inNodeG child deep b fl s 0)) := by
  have hn := E.small
  have hnc := E.le
  have hcm := E.cap
  have HE := Lib.hid E
  have HW := Lib.hid hw
  obtain ⟨As, hsls, hAs, hrds⟩ := slice_l _ n c s b E.len E.le E.nil hs
  have HRS := Lib.hid (And.intro hrds hAs)
  have HK := Lib.hid hk
  clear E hw hk hrds hAs
  go_enter Try.func75, Try.ntmps75
  go_wp2_with fail
  refine (Pr.refTake_any As (n - s) (c - s) (b.drop s) W (by rw [List.length_drop, HE.out.len]) (by omega) (by omega) HRS.out.2 (HE.out.byte.drop s) (HRS.out.1 _ (HE.out.rd.below HW.out))).mono ?_
  rintro e W0 ⟨t, a, ht, ha, rfl, hb0⟩
  rw [HK.out]
  have HB0 := Lib.hid hb0
  clear ht ha hb0
  go_wp2_with fail
  go_ret3
  have hr : inNodeG child deep b fl s 0 = .error 2 := by unfold inNodeG; rw [HK.out]; rfl
  rw [hr]
  exact ⟨rfl, HB0.out.alloc HB0.out.size _, by decide⟩
set_option maxHeartbeats 8000000 in
theorem rnodeAl_at (E : REnv w A n c b) (hw : Below w.heap.size w W) (hs : s ≤ n) (hp : Pr.takeP (b.drop s) = (tg, an, k, true)) (h2 : inBlk b (s + k) = s2) (hcv : b.getD s2 0 = 42) :
    Calls Try.prog 75 #[.slice A n c, .int .i64 (s : Int), .bool fl, .int .i64 d] W (RNodeP W (inNodeG child deep b fl s 0)) := by
  have hn := E.small
  have hnc := E.le
  have hcm := E.cap
  have HE := Lib.hid E
  have HW := Lib.hid hw
  have hkl : s + k ≤ n := by
    have := takeP_len (b.drop s)
    rw [hp, List.length_drop, E.len] at this
    simp only at this
    omega
  have hk1 : (Pr.takeP (b.drop s)).2.2.1 = k := by rw [hp]
  have hk2 : (Pr.takeP (b.drop s)).2.2.2 = true := by rw [hp]
  have hk3 : (Pr.takeP (b.drop s)).1 = tg := by rw [hp]
  have hk4 : (Pr.takeP (b.drop s)).2.1 = an := by rw [hp]
  obtain ⟨As, hsls, hAs, hrds⟩ := slice_l _ n c s b E.len E.le E.nil hs
  have HRS := Lib.hid (And.intro hrds hAs)
  obtain ⟨s1, hs1⟩ : ∃ s1, s + k = s1 := ⟨_, rfl⟩
  have hs1z : (s : Int) + (k : Int) = (s1 : Int) := by omega
  have hs1n : s1 ≤ n := by omega
  have h2' := h2
  rw [hs1] at h2'
  obtain ⟨A2, hsl2, -, hrd2⟩ := slice_l _ n c s1 b E.len E.le E.nil hs1n
  obtain ⟨kk, hkk⟩ : ∃ z, blkF (b.drop s1) = z := ⟨_, rfl⟩
  have hsum : (s1 : Int) + (kk : Int) = (s2 : Int) := by rw [← h2', ← hkk]; unfold inBlk; omega
  have hs2n : s2 ≤ n := by rw [← h2', ← E.len]; exact blk_le (by rw [E.len]; exact hs1n)
  have hs12 : s1 ≤ s2 := by rw [← h2']; exact blk_ge b _
  obtain ⟨A3, hsl3, hA3, hrd3⟩ := slice_l _ n c s2 b E.len E.le E.nil hs2n
  obtain ⟨st0, hst0⟩ : ∃ z, (if k = 0 then s2 else s) = z := ⟨_, rfl⟩
  have HST := Lib.hid hst0
  have HRD2 := Lib.hid hrd2
  have HRD3 := Lib.hid (And.intro hrd3 hA3)
  have HKK := Lib.hid hkk
  have HP := Lib.hid hp
  have H2 := Lib.hid (And.intro h2 hs1)
  have HK := Lib.hid (And.intro hk1 (And.intro hk2 (And.intro hk3 hk4)))
  clear E hw hp h2 h2' hs1 hkk hrds hAs hrd2 hrd3 hA3 hst0 hk1 hk2 hk3 hk4
  go_enter Try.func75, Try.ntmps75
  go_wp2_with fail
  refine (Pr.refTake_any As (n - s) (c - s) (b.drop s) W (by rw [List.length_drop, HE.out.len]) (by omega) (by omega) HRS.out.2 (HE.out.byte.drop s) (HRS.out.1 _ (HE.out.rd.below HW.out))).mono ?_
  rintro e W0 ⟨t, a, ht, ha, rfl, hb0⟩
  rw [HK.out.2.2.1] at ht
  rw [HK.out.2.2.2] at ha
  rw [HK.out.1, HK.out.2.1]
  have HTA := Lib.hid (And.intro ht ha)
  have HB0 := Lib.hid hb0
  clear ht ha hb0 hsls HRS
  go_upto_region 2 with fail
  obtain ⟨W1, hW1⟩ : ∃ W1, W0.alloc (.cells #[.string t, .string a] 113) = W1 := ⟨_, rfl⟩
  obtain ⟨gp, hgp⟩ : ∃ g, W0.heap.size = g := ⟨_, rfl⟩
  have hb1 : Below W0.heap.size W0 W1 := by rw [← hW1]; exact (Below.refl _ _).alloc (Nat.le_refl _) _
  have p0 : W1.cell? ⟨gp, 0, none⟩ = some (.string t) := by rw [← hW1, ← hgp, World.cell?_alloc_mark]; rfl
  have p1 : W1.cell? ⟨gp, 1, none⟩ = some (.string a) := by rw [← hW1, ← hgp, World.cell?_alloc_mark]; rfl
  have hs1w : W1.heap.size = gp + 1 := by rw [← hW1, ← hgp]; simp
  rw [hW1, hgp]
  have HB1 : Hid (Below W.heap.size W W1) := below_step HB0.out hb1
  have HGP : Hid (W.heap.size ≤ gp) := by show W.heap.size ≤ gp; rw [← hgp]; exact HB0.out.size
  clear hW1 hgp hb1 HB0
  have P1 := Lib.hid p0
  go_wp2_with fail
  refine (refBlanks_any A2 (n - s1) (c - s1) (b.drop s1) W1 (by rw [List.length_drop, HE.out.len]) (by omega) (by omega) (HRD2.out _ (HE.out.rd.below (below_step HW.out HB1.out)))).mono ?_
  rintro e w' ⟨rfl, rfl⟩
  rw [HKK.out]
  clear hsl2 HRD2
  go_upto_region 7 with fail
  obtain ⟨W2, hW2⟩ : ∃ W2, W1.alloc (.cells #[.int .i64 0, .int .i64 0, .string ⟨#[]⟩, .string a, .string ⟨#[]⟩, .int .i64 (s : Int), .int .i64 0, .int .i64 0, .int .i64 0, .slice none 0 0] 41) = W2 := ⟨_, rfl⟩
  obtain ⟨gx, hgx⟩ : ∃ g, gp + 1 = g := ⟨_, rfl⟩
  have bx : Box W2 gx [.int .i64 0, .int .i64 0, .string ⟨#[]⟩, .string a, .string ⟨#[]⟩, .int .i64 (s : Int), .int .i64 0, .int .i64 0, .int .i64 0, .slice none 0 0] := by rw [← hW2, ← hgx, ← hs1w]; exact Box.new W1 _
  have hb2 : Below W1.heap.size W1 W2 := by rw [← hW2]; exact (Below.refl _ _).alloc (Nat.le_refl _) _
  rw [hgx, hW2]
  have p2 : W2.cell? ⟨gp, 0, none⟩ = some (.string t) := cell_keep hb2 p0
  have hne : gx ≠ gp := by omega
  have HNE := Lib.hid hne
  have HB2 : Hid (Below W.heap.size W W2) := below_step HB1.out hb2
  have HX2 := Lib.hid bx
  have HGX : Hid (W.heap.size ≤ gx) := by show W.heap.size ≤ gx; have := HGP.out; omega
  clear hW2 hgx hb2 p0 p1 hs1w bx hne HB1 HGP P1
  have P2 := Lib.hid p2
  clear p2
  have x5 := HX2.out.cell 5 _ rfl
  have f5 := HX2.out.frozen 5
  go_upto_if 48 with fail
  go_cut [14] from 49 to 50 (fun v U => v = .int .i64 (s2 : Int) ∧ Hid (Box U gx [.int .i64 0, .int .i64 0, .string ⟨#[]⟩, .string a, .string ⟨#[]⟩, .int .i64 (st0 : Int), .int .i64 0, .int .i64 0, .int .i64 0, .slice none 0 0] ∧ U.cell? ⟨gp, 0, none⟩ = some (.string t) ∧ Below W.heap.size W U))
  case first =>
    by_cases hk0 : k = 0
    · have hst : s2 = st0 := by have := HST.out; rw [if_pos hk0] at this; exact this
      have HST1 := Lib.hid hst
      clear hst
      subst hk0
      simp only [show ((0 : Nat) : Int) = 0 from rfl]
      go_wp2_with fail
      go_meet
      refine ⟨rfl, ?_, ?_, ?_⟩
      · rw [← HST1.out]; exact HX2.out.set 5 (.int .i64 (s2 : Int))
      · rw [World.cell?_setCell_other _ _ _ _ (by intro e; injection e with e; exact HNE.out e)]; exact P2.out
      · exact HB2.out.setCell (p := ⟨gx, 5, none⟩) HGX.out _
    · have hst : s = st0 := by have := HST.out; rw [if_neg hk0] at this; exact this
      have HST1 := Lib.hid hst
      have hk0' : ¬ (k : Int) = 0 := by omega
      have hk0'' : ((k : Int) == 0) = false := beq_eq_false_iff_ne.2 hk0'
      clear hst
      go_wp2_with fail
      go_meet
      refine ⟨rfl, ?_, P2.out, HB2.out⟩
      rw [← HST1.out]; exact HX2.out
  case rest =>
    obtain ⟨rfl, HC⟩ := hcut
    obtain ⟨V, hV⟩ : ∃ z, z = wc := ⟨_, rfl⟩
    subst hV
    have HX : Hid (Box V gx [.int .i64 0, .int .i64 0, .string ⟨#[]⟩, .string a, .string ⟨#[]⟩, .int .i64 (st0 : Int), .int .i64 0, .int .i64 0, .int .i64 0, .slice none 0 0]) := HC.out.1
    have HP0 : Hid (V.cell? ⟨gp, 0, none⟩ = some (.string t)) := HC.out.2.1
    have HB : Hid (Below W.heap.size W V) := HC.out.2.2
    have HWV : Hid (Below w.heap.size w V) := below_step HW.out HB.out
    clear HC x5 f5 HX2 P2 HB2
    have hlt : s2 < n := by rw [← HE.out.len]; exact getD_lt (by rw [hcv]; decide)
    obtain ⟨aa, oo, hAe, hcell⟩ := (HE.out.rd.below HWV.out).addr (by rw [HE.out.len]; omega)
    have cs := hcell s2 (by rw [HE.out.len]; exact hlt)
    rw [hcv] at cs
    subst hAe
    have dlt : (s2 : Int) < (n : Int) := by omega
    clear hcell
    go_wp2_with fail
    refine (Pr.refAlias_any A3 (n - s2) (c - s2) (b.drop s2) V (by rw [List.length_drop, HE.out.len]) (by omega) (by omega) HRD3.out.2 (HE.out.byte.drop s2) (HRD3.out.1 _ (HE.out.rd.below HWV.out))).mono ?_
    rintro e V1 ⟨v, hv, rfl, hb1⟩
    have HX1 := Lib.hid (HX.out.below hb1)
    have HP1 : Hid (V1.cell? ⟨gp, 0, none⟩ = some (.string t)) := cell_keep hb1 HP0.out
    have HB1 := Lib.hid (below_step HB.out hb1)
    clear hb1 HX HP0 HB hsl3 cs
    obtain ⟨q, hq⟩ : ∃ q, Pr.aliasF (b.drop s2) = q := ⟨_, rfl⟩
    obtain ⟨nm, m, ok⟩ := q
    have hal : ok = true → m ≤ (b.drop s2).length := fun e => by have := alias_len (l := b.drop s2) (by rw [hq]; exact e); rw [hq] at this; exact this.2
    rw [hq] at hv ⊢
    have hcont0 : inCont child deep b fl s2 1 = if ok = true then .ok ({ Nd.nil with kind := 4, value := nm }, [], s2 + m) else .error 2 := by
      unfold inCont
      rw [if_pos hcv, hq]
    have HV := Lib.hid hv
    have HC0 := Lib.hid hcont0
    have HAL := Lib.hid hal
    clear hv hq hcont0 hal
    by_cases hbad : 0 < k ∨ ok = false
    · have hre : inNodeG child deep b fl s 0 = .error 2 := by
        unfold inNodeG
        rw [HP.out]
        dsimp only
        rw [if_pos rfl, H2.out.1, show 0 + 1 = 1 from rfl, HC0.out]
        cases ok with
        | false => rfl
        | true =>
          rcases hbad with h | h
          · rw [if_pos rfl]
            simp only [inDone]
            rw [if_pos (by refine ⟨?_, h⟩; trivial)]
          · cases h
      have HRE := Lib.hid hre
      clear hre
      by_cases hk : 0 < k
      · have d1 : (0 : Int) < (k : Int) := by omega
        have d2 : decide ((0 : Int) < (k : Int)) = true := decide_eq_true d1
        clear hbad
        go_wp2_with fail
        go_ret3
        rw [HRE.out]
        exact ⟨rfl, HB1.out, by decide⟩
      · obtain rfl : k = 0 := by omega
        have hok : ok = false := by rcases hbad with h | h; omega; exact h
        subst hok
        clear hbad
        simp only [show ((0 : Nat) : Int) = 0 from rfl]
        go_wp2_with fail
        go_ret3
        rw [HRE.out]
        exact ⟨rfl, HB1.out, by decide⟩
    · obtain rfl : k = 0 := by omega
      have hok : ok = true := by cases ok with
        | true => rfl
        | false => exact absurd (.inr rfl) hbad
      subst hok
      clear hbad
      simp only [show ((0 : Nat) : Int) = 0 from rfl]
      have hml := HAL.out rfl
      rw [List.length_drop, HE.out.len] at hml
      obtain ⟨e1, he1⟩ : ∃ e1, s2 + m = e1 := ⟨_, rfl⟩
      have he1z : (s2 : Int) + (m : Int) = (e1 : Int) := by omega
      have HE1 := Lib.hid he1
      have hvz : v.size ≤ 400000 := by
        have h := HC0.out
        rw [← byt_len, HV.out]
        have := (contR_byte HE.out.byte (h.trans (if_pos rfl))).2
        simp only [HE.out.len] at this
        dsimp only
        omega
      have HX4 : Hid (Box (((V1.setCell ⟨gx, 0, none⟩ (.int .i64 4)).setCell ⟨gx, 4, none⟩ (.string v)).setCell ⟨gx, 6, none⟩ (.int .i64 (e1 : Int))) gx [.int .i64 4, .int .i64 0, .string ⟨#[]⟩, .string a, .string v, .int .i64 (st0 : Int), .int .i64 (e1 : Int), .int .i64 0, .int .i64 0, .slice none 0 0]) := (((HX1.out.set 0 (.int .i64 4)).set 4 (.string v)).set 6 (.int .i64 (e1 : Int)))
      have HB4 : Hid (Below W.heap.size W (((V1.setCell ⟨gx, 0, none⟩ (.int .i64 4)).setCell ⟨gx, 4, none⟩ (.string v)).setCell ⟨gx, 6, none⟩ (.int .i64 (e1 : Int)))) := (((HB1.out.setCell (p := ⟨gx, 0, none⟩) HGX.out (.int .i64 4)).setCell (p := ⟨gx, 4, none⟩) HGX.out (.string v)).setCell (p := ⟨gx, 6, none⟩) HGX.out (.int .i64 (e1 : Int)))
      have HP4 : Hid (World.cell? (((V1.setCell ⟨gx, 0, none⟩ (.int .i64 4)).setCell ⟨gx, 4, none⟩ (.string v)).setCell ⟨gx, 6, none⟩ (.int .i64 (e1 : Int))) ⟨gp, 0, none⟩ = some (.string t)) := by
        show World.cell? _ _ = _
        rw [World.cell?_setCell_other _ _ _ _ (by intro e; injection e with e; exact HNE.out e), World.cell?_setCell_other _ _ _ _ (by intro e; injection e with e; exact HNE.out e), World.cell?_setCell_other _ _ _ _ (by intro e; injection e with e; exact HNE.out e)]
        exact HP1.out
      have y0 := HX1.out.cell 0 _ rfl
      have fy0 := HX1.out.frozen 0
      have y4 := HX1.out.cell 4 _ rfl
      have fy4 := HX1.out.frozen 4
      have y6 := HX1.out.cell 6 _ rfl
      have fy6 := HX1.out.frozen 6
      clear he1
      go_upto_region 39 with fail
      generalize (((V1.setCell ⟨gx, 0, none⟩ (.int .i64 4)).setCell ⟨gx, 4, none⟩ (.string v)).setCell ⟨gx, 6, none⟩ (.int .i64 (e1 : Int))) = V4 at *
      clear HX1 HB1 HP1 he1z
      clear y0 fy0 y4 fy4 y6 fy6
      have x5 := HX4.out.cell 5 _ rfl
      have x7 := HX4.out.cell 7 _ rfl
      have f7 := HX4.out.frozen 7
      have x8 := HX4.out.cell 8 _ rfl
      have f8 := HX4.out.frozen 8
      have HX5 : Hid (Box ((V4.setCell ⟨gx, 7, none⟩ (.int .i64 (st0 : Int))).setCell ⟨gx, 8, none⟩ (.int .i64 (st0 : Int))) gx [.int .i64 4, .int .i64 0, .string ⟨#[]⟩, .string a, .string v, .int .i64 (st0 : Int), .int .i64 (e1 : Int), .int .i64 (st0 : Int), .int .i64 (st0 : Int), .slice none 0 0]) := (HX4.out.set 7 _).set 8 _
      have HB5 : Hid (Below W.heap.size W ((V4.setCell ⟨gx, 7, none⟩ (.int .i64 (st0 : Int))).setCell ⟨gx, 8, none⟩ (.int .i64 (st0 : Int)))) := (HB4.out.setCell (p := ⟨gx, 7, none⟩) HGX.out _).setCell (p := ⟨gx, 8, none⟩) HGX.out _
      have HP5 : Hid (((V4.setCell ⟨gx, 7, none⟩ (.int .i64 (st0 : Int))).setCell ⟨gx, 8, none⟩ (.int .i64 (st0 : Int))).cell? ⟨gp, 0, none⟩ = some (.string t)) := by
        show World.cell? _ _ = _
        rw [World.cell?_setCell_other _ _ _ _ (by intro e; injection e with e; exact HNE.out e), World.cell?_setCell_other _ _ _ _ (by intro e; injection e with e; exact HNE.out e)]
        exact HP4.out
      go_upto_region 40 with fail
      generalize (V4.setCell ⟨gx, 7, none⟩ (.int .i64 (st0 : Int))).setCell ⟨gx, 8, none⟩ (.int .i64 (st0 : Int)) = V5 at *
      clear x5 x7 f7 x8 f8 HX4 HB4 HP4
      obtain ⟨r, hrr⟩ : ∃ r, strOfNums (inTag 4 0 (byt t) (byt v)) = r := ⟨_, rfl⟩
      have HRR := Lib.hid hrr
      have x0 := HX5.out.cell 0 _ rfl
      have x1 := HX5.out.cell 1 _ rfl
      have x4 := HX5.out.cell 4 _ rfl
      have p5 := HP5.out
      clear hrr
      go_wp2_with fail
      refine (rtag_at (w := V5) (W := V5) (Below.refl _ _) 4 0 t v (by omega) r HRR.out).mono ?_
      rintro e V6 ⟨rfl, hb6⟩
      have HX6 := Lib.hid (HX5.out.below hb6)
      have x2 := HX6.out.cell 2 _ rfl
      have f2 := HX6.out.frozen 2
      have HX7 := Lib.hid (HX6.out.set 2 (.string r))
      have HB7 : Hid (Below W.heap.size W (V6.setCell ⟨gx, 2, none⟩ (.string r))) := (below_step HB5.out hb6).setCell (p := ⟨gx, 2, none⟩) HGX.out _
      clear x0 x1 x4 p5 hb6 HX5 HB5 HP5
      go_upto_region 41 with fail
      generalize V6.setCell ⟨gx, 2, none⟩ (.string r) = V7 at *
      clear x2 f2 HX6
      have HX8 : Hid (Box V7.drew gx [.int .i64 4, .int .i64 0, .string r, .string a, .string v, .int .i64 (st0 : Int), .int .i64 (e1 : Int), .int .i64 (st0 : Int), .int .i64 (st0 : Int), .slice none 0 0]) := HX7.out.below (Below.refl _ _).drew
      have HB8 : Hid (Below W.heap.size W V7.drew) := HB7.out.drew
      clear HX7 HB7
      refine gen_act fun a0 hA => ?_
      have hsz : a0.tmps.size = 208 := by rw [hA]; rfl
      have e15 : a0.eval (.tmp 15) = .pointer (some ⟨gx, 0, none⟩) := by rw [hA]; rfl
      refine region_gate (fun V => Box V gx [.int .i64 4, .int .i64 0, .string r, .string a, .string v, .int .i64 (st0 : Int), .int .i64 (e1 : Int), .int .i64 (st0 : Int), .int .i64 (st0 : Int), .slice none 0 0]) 5 (by kernel_rfl) ?_
      change wpGate _ _ _ _ _ _ 7 _ _ _
      generalize V7.drew = V8 at *
      refine gate_take0 (i := 2) (v := .pointer (some ⟨gx, 6, none⟩)) rfl (by rfl) (by kernel_rfl) (by kernel_rfl) (by kernel_rfl) (fun _ _ _ h => h) rfl (fun V => field6_exec _ (.tmp 15) rfl _ V gx e15) HX8.out ?_
      refine gate_take (i := 0) (v := .agg #[.int .i64 4, .int .i64 0, .string r, .string a, .string v, .int .i64 (st0 : Int), .int .i64 (e1 : Int), .int .i64 (st0 : Int), .int .i64 (st0 : Int), .slice none 0 0]) rfl (by rfl) (by kernel_rfl) (by kernel_rfl) (by kernel_rfl) (by kernel_rfl) (by kernel_rfl) (fun _ _ _ h => h) rfl (fun V hV => load10 _ (.tmp 15) rfl _ V gx _ _ _ _ _ _ _ _ _ _ (by simp [evp_ne, e15]) hV) HX8.out ?_
      refine gate_take (i := 3) (v := .int .i64 (e1 : Int)) rfl (by rfl) (by kernel_rfl) (by kernel_rfl) (by kernel_rfl) (by kernel_rfl) (by kernel_rfl) (fun _ _ _ h => h) rfl (fun V hV => by
        have c6 := hV.cell 6 _ rfl
        have e206 : ((a0.put (some 206) (.pointer (some ⟨gx, 6, none⟩))).put (some 204) (.agg #[.int .i64 4, .int .i64 0, .string r, .string a, .string v, .int .i64 (st0 : Int), .int .i64 (e1 : Int), .int .i64 (st0 : Int), .int .i64 (st0 : Int), .slice none 0 0])).eval (.tmp 206) = .pointer (some ⟨gx, 6, none⟩) := by simp [evp_same, evp_ne, szp, hsz]
        exact loadI_exec _ (.tmp 206) rfl _ V _ _ e206 c6) HX8.out ?_
      obtain ⟨V9, hV9⟩ : ∃ z, V8.alloc (.cells #[.int .i64 4, .int .i64 0, .string r, .string a, .string v, .int .i64 (st0 : Int), .int .i64 (e1 : Int), .int .i64 (st0 : Int), .int .i64 (st0 : Int), .slice none 0 0] 41) = z := ⟨_, rfl⟩
      have hb9 : Below V8.heap.size V8 V9 := by rw [← hV9]; exact (Below.refl _ _).alloc (Nat.le_refl _) _
      have HX9 := Lib.hid (HX8.out.below hb9)
      refine gate_one (i := 1) (by kernel_rfl) ?_
      refine wpOp_value (w' := V9) (v := .slice (some ⟨V8.heap.size, 0, none⟩) 1 1) rfl rfl (by rw [← hV9]; exact build1_exec _ (.tmp 204) rfl _ V8 _ _ _ _ _ _ _ _ _ _ (by simp [evp_same, evp_ne, szp, hsz])) ⟨fun _ => HX9.out, ?_⟩
      refine gate_one (i := 4) (by kernel_rfl) ?_
      refine wpOp_value (w' := V9) (v := .slice (some ⟨V8.heap.size, 0, none⟩) 1 1) rfl rfl (by simp [execOp, kput_none, evp_same, evp_ne, szp, hsz]) ⟨fun _ => HX9.out, ?_⟩
      refine gate_one (i := 5) (by kernel_rfl) ?_
      refine wpOp_value (w' := V9) (v := .int .i64 (e1 : Int)) rfl rfl (by simp [execOp, kput_none, evp_same, evp_ne, szp, hsz]) ⟨fun _ => HX9.out, ?_⟩
      refine gate_one (i := 6) (by kernel_rfl) ?_
      refine wpOp_value (w' := V9) (v := .int .i64 0) rfl rfl (by simp [execOp]; rfl) ⟨fun _ => HX9.out, ?_⟩
      refine gate_done (by kernel_rfl) ?_ _
      subst hA
      clear hsz e15
      go_wp2_with fail
      simp only [Act.put, List.setIfInBounds_toArray, List.set_cons_zero, List.set_cons_succ]
      have er : strOfNums (inTag 4 0 tg (byt v)) = r := by have := HRR.out; rw [HTA.out.1] at this; exact this
      have ea : strOfNums an = a := by rw [← HTA.out.2, strOfNums_byt]
      have hr : inNodeG child deep b fl s 0 = .ok ([⟨4, 0, inTag 4 0 tg (byt v), an, byt v, st0, e1, st0, st0, []⟩], e1) := by
        unfold inNodeG
        rw [HP.out]
        dsimp only
        rw [if_pos rfl, H2.out.1]
        have hcont : inCont child deep b fl s2 (0 + 1) = .ok ({ Nd.nil with kind := 4, value := byt v }, [], e1) := by
          have h := HC0.out
          rw [if_pos (by trivial), HE1.out] at h
          rw [HV.out]
          exact h
        rw [hcont]
        simp only [inDone]
        rw [if_neg (by rintro ⟨_, h⟩; omega), if_neg (by simp [Nd.nil])]
        have e := HST.out
        rw [e]
        simp [inFin, Nd.nil]
      have hone := Nds.one (B := W.heap.size) V8 HB8.out.size ⟨4, 0, inTag 4 0 tg (byt v), an, byt v, st0, e1, st0, st0, []⟩ rfl
      have hcc : (ndC ((⟨4, 0, inTag 4 0 tg (byt v), an, byt v, st0, e1, st0, st0, []⟩ : Nd), .slice none 0 0)).toArray = #[.int .i64 4, .int .i64 0, .string r, .string a, .string v, .int .i64 (st0 : Int), .int .i64 (e1 : Int), .int .i64 (st0 : Int), .int .i64 (st0 : Int), .slice none 0 0] := by
        simp only [ndC, er, ea, strOfNums_byt]
      rw [hcc, hV9] at hone
      refine bodyPost_ret (v := .tuple #[.slice (some ⟨V8.heap.size, 0, none⟩) 1 1, .int .i64 (e1 : Int), .int .i64 0]) (by simp [results, Try.results75, go_sem]) rfl ?_
      rw [hr]
      exact ⟨_, _, rfl, hone, rfl, below_step HB8.out hb9⟩
end
section
variable {w W : World} {A : Option Addr} {n c s k s2 : Nat} {b tg an : List Int} {fl : Bool} {d : Int} {child : Nat → Nat → InR} {deep : Bool}
set_option maxHeartbeats 8000000 in
theorem rnodeQ34_at (E : REnv w A n c b) (hw : Below w.heap.size w W) (hs : s ≤ n) (hp : Pr.takeP (b.drop s) = (tg, an, k, true)) (h2 : inBlk b (s + k) = s2) (hcv : b.getD s2 0 = 34) :
    Calls Try.prog 75 #[.slice A n c, .int .i64 (s : Int), .bool fl, .int .i64 d] W (RNodeP W (inNodeG child deep b fl s 0)) := by
  have hn := E.small
  have hnc := E.le
  have hcm := E.cap
  have HE := Lib.hid E
  have HW := Lib.hid hw
  have hkl : s + k ≤ n := by
    have := takeP_len (b.drop s)
    rw [hp, List.length_drop, E.len] at this
    simp only at this
    omega
  have hk1 : (Pr.takeP (b.drop s)).2.2.1 = k := by rw [hp]
  have hk2 : (Pr.takeP (b.drop s)).2.2.2 = true := by rw [hp]
  have hk3 : (Pr.takeP (b.drop s)).1 = tg := by rw [hp]
  have hk4 : (Pr.takeP (b.drop s)).2.1 = an := by rw [hp]
  obtain ⟨As, hsls, hAs, hrds⟩ := slice_l _ n c s b E.len E.le E.nil hs
  have HRS := Lib.hid (And.intro hrds hAs)
  obtain ⟨s1, hs1⟩ : ∃ s1, s + k = s1 := ⟨_, rfl⟩
  have hs1z : (s : Int) + (k : Int) = (s1 : Int) := by omega
  have hs1n : s1 ≤ n := by omega
  have h2' := h2
  rw [hs1] at h2'
  obtain ⟨A2, hsl2, -, hrd2⟩ := slice_l _ n c s1 b E.len E.le E.nil hs1n
  obtain ⟨kk, hkk⟩ : ∃ z, blkF (b.drop s1) = z := ⟨_, rfl⟩
  have hsum : (s1 : Int) + (kk : Int) = (s2 : Int) := by rw [← h2', ← hkk]; unfold inBlk; omega
  have hs2n : s2 ≤ n := by rw [← h2', ← E.len]; exact blk_le (by rw [E.len]; exact hs1n)
  have hs12 : s1 ≤ s2 := by rw [← h2']; exact blk_ge b _
  obtain ⟨A3, hsl3, hA3, hrd3⟩ := slice_l _ n c s2 b E.len E.le E.nil hs2n
  obtain ⟨st0, hst0⟩ : ∃ z, (if k = 0 then s2 else s) = z := ⟨_, rfl⟩
  have HST := Lib.hid hst0
  have HRD2 := Lib.hid hrd2
  have HRD3 := Lib.hid (And.intro hrd3 hA3)
  have HKK := Lib.hid hkk
  have HP := Lib.hid hp
  have H2 := Lib.hid (And.intro h2 hs1)
  have HK := Lib.hid (And.intro hk1 (And.intro hk2 (And.intro hk3 hk4)))
  clear E hw hp h2 h2' hs1 hkk hrds hAs hrd2 hrd3 hA3 hst0 hk1 hk2 hk3 hk4
  go_enter Try.func75, Try.ntmps75
  go_wp2_with fail
  refine (Pr.refTake_any As (n - s) (c - s) (b.drop s) W (by rw [List.length_drop, HE.out.len]) (by omega) (by omega) HRS.out.2 (HE.out.byte.drop s) (HRS.out.1 _ (HE.out.rd.below HW.out))).mono ?_
  rintro e W0 ⟨t, a, ht, ha, rfl, hb0⟩
  rw [HK.out.2.2.1] at ht
  rw [HK.out.2.2.2] at ha
  rw [HK.out.1, HK.out.2.1]
  have HTA := Lib.hid (And.intro ht ha)
  have HB0 := Lib.hid hb0
  clear ht ha hb0 hsls HRS
  go_upto_region 2 with fail
  obtain ⟨W1, hW1⟩ : ∃ W1, W0.alloc (.cells #[.string t, .string a] 113) = W1 := ⟨_, rfl⟩
  obtain ⟨gp, hgp⟩ : ∃ g, W0.heap.size = g := ⟨_, rfl⟩
  have hb1 : Below W0.heap.size W0 W1 := by rw [← hW1]; exact (Below.refl _ _).alloc (Nat.le_refl _) _
  have p0 : W1.cell? ⟨gp, 0, none⟩ = some (.string t) := by rw [← hW1, ← hgp, World.cell?_alloc_mark]; rfl
  have p1 : W1.cell? ⟨gp, 1, none⟩ = some (.string a) := by rw [← hW1, ← hgp, World.cell?_alloc_mark]; rfl
  have hs1w : W1.heap.size = gp + 1 := by rw [← hW1, ← hgp]; simp
  rw [hW1, hgp]
  have HB1 : Hid (Below W.heap.size W W1) := below_step HB0.out hb1
  have HGP : Hid (W.heap.size ≤ gp) := by show W.heap.size ≤ gp; rw [← hgp]; exact HB0.out.size
  clear hW1 hgp hb1 HB0
  have P1 := Lib.hid p0
  go_wp2_with fail
  refine (refBlanks_any A2 (n - s1) (c - s1) (b.drop s1) W1 (by rw [List.length_drop, HE.out.len]) (by omega) (by omega) (HRD2.out _ (HE.out.rd.below (below_step HW.out HB1.out)))).mono ?_
  rintro e w' ⟨rfl, rfl⟩
  rw [HKK.out]
  clear hsl2 HRD2
  go_upto_region 7 with fail
  obtain ⟨W2, hW2⟩ : ∃ W2, W1.alloc (.cells #[.int .i64 0, .int .i64 0, .string ⟨#[]⟩, .string a, .string ⟨#[]⟩, .int .i64 (s : Int), .int .i64 0, .int .i64 0, .int .i64 0, .slice none 0 0] 41) = W2 := ⟨_, rfl⟩
  obtain ⟨gx, hgx⟩ : ∃ g, gp + 1 = g := ⟨_, rfl⟩
  have bx : Box W2 gx [.int .i64 0, .int .i64 0, .string ⟨#[]⟩, .string a, .string ⟨#[]⟩, .int .i64 (s : Int), .int .i64 0, .int .i64 0, .int .i64 0, .slice none 0 0] := by rw [← hW2, ← hgx, ← hs1w]; exact Box.new W1 _
  have hb2 : Below W1.heap.size W1 W2 := by rw [← hW2]; exact (Below.refl _ _).alloc (Nat.le_refl _) _
  rw [hgx, hW2]
  have p2 : W2.cell? ⟨gp, 0, none⟩ = some (.string t) := cell_keep hb2 p0
  have hne : gx ≠ gp := by omega
  have HNE := Lib.hid hne
  have HB2 : Hid (Below W.heap.size W W2) := below_step HB1.out hb2
  have HX2 := Lib.hid bx
  have HGX : Hid (W.heap.size ≤ gx) := by show W.heap.size ≤ gx; have := HGP.out; omega
  clear hW2 hgx hb2 p0 p1 hs1w bx hne HB1 HGP P1
  have P2 := Lib.hid p2
  clear p2
  have x5 := HX2.out.cell 5 _ rfl
  have f5 := HX2.out.frozen 5
  go_upto_if 48 with fail
  go_cut [14] from 49 to 50 (fun v U => v = .int .i64 (s2 : Int) ∧ Hid (Box U gx [.int .i64 0, .int .i64 0, .string ⟨#[]⟩, .string a, .string ⟨#[]⟩, .int .i64 (st0 : Int), .int .i64 0, .int .i64 0, .int .i64 0, .slice none 0 0] ∧ U.cell? ⟨gp, 0, none⟩ = some (.string t) ∧ Below W.heap.size W U))
  case first =>
    by_cases hk0 : k = 0
    · have hst : s2 = st0 := by have := HST.out; rw [if_pos hk0] at this; exact this
      have HST1 := Lib.hid hst
      clear hst
      subst hk0
      simp only [show ((0 : Nat) : Int) = 0 from rfl]
      go_wp2_with fail
      go_meet
      refine ⟨rfl, ?_, ?_, ?_⟩
      · rw [← HST1.out]; exact HX2.out.set 5 (.int .i64 (s2 : Int))
      · rw [World.cell?_setCell_other _ _ _ _ (by intro e; injection e with e; exact HNE.out e)]; exact P2.out
      · exact HB2.out.setCell (p := ⟨gx, 5, none⟩) HGX.out _
    · have hst : s = st0 := by have := HST.out; rw [if_neg hk0] at this; exact this
      have HST1 := Lib.hid hst
      have hk0' : ¬ (k : Int) = 0 := by omega
      have hk0'' : ((k : Int) == 0) = false := beq_eq_false_iff_ne.2 hk0'
      clear hst
      go_wp2_with fail
      go_meet
      refine ⟨rfl, ?_, P2.out, HB2.out⟩
      rw [← HST1.out]; exact HX2.out
  case rest =>
    obtain ⟨rfl, HC⟩ := hcut
    obtain ⟨V, hV⟩ : ∃ z, z = wc := ⟨_, rfl⟩
    subst hV
    have HX : Hid (Box V gx [.int .i64 0, .int .i64 0, .string ⟨#[]⟩, .string a, .string ⟨#[]⟩, .int .i64 (st0 : Int), .int .i64 0, .int .i64 0, .int .i64 0, .slice none 0 0]) := HC.out.1
    have HP0 : Hid (V.cell? ⟨gp, 0, none⟩ = some (.string t)) := HC.out.2.1
    have HB : Hid (Below W.heap.size W V) := HC.out.2.2
    have HWV : Hid (Below w.heap.size w V) := below_step HW.out HB.out
    clear HC x5 f5 HX2 P2 HB2
    have hlt : s2 < n := by rw [← HE.out.len]; exact getD_lt (by rw [hcv]; decide)
    obtain ⟨aa, oo, hAe, hcell⟩ := (HE.out.rd.below HWV.out).addr (by rw [HE.out.len]; omega)
    have cs := hcell s2 (by rw [HE.out.len]; exact hlt)
    rw [hcv] at cs
    subst hAe
    have dlt : (s2 : Int) < (n : Int) := by omega
    clear hcell
    obtain ⟨o, ho⟩ : ∃ o, takeD (b.drop s2) = o := ⟨_, rfl⟩
    have HO := Lib.hid ho
    clear ho
    go_wp2_with fail
    refine (refTake_any A3 (n - s2) (c - s2) (b.drop s2) V (by rw [List.length_drop, HE.out.len]) (by omega) (by omega) (by omega) (HE.out.byte.drop s2) (HRD3.out.1 _ (HE.out.rd.below HWV.out)) o HO.out).mono ?_
    rintro e V1 ⟨v, hv, rfl, hb1⟩
    have HX2 := Lib.hid (HX.out.below hb1)
    have HP2 : Hid (V1.cell? ⟨gp, 0, none⟩ = some (.string t)) := cell_keep hb1 HP0.out
    have HB2 := Lib.hid (below_step HB.out hb1)
    clear hb1 HX HP0 HB hsl3 cs
    have y1 := HX2.out.cell 1 _ rfl
    have fy1 := HX2.out.frozen 1
    have HX3 := Lib.hid (HX2.out.set 1 (.int .i64 3))
    have HB3 : Hid (Below W.heap.size W (V1.setCell ⟨gx, 1, none⟩ (.int .i64 3))) := HB2.out.setCell (p := ⟨gx, 1, none⟩) HGX.out _
    have HP3 : Hid ((V1.setCell ⟨gx, 1, none⟩ (.int .i64 3)).cell? ⟨gp, 0, none⟩ = some (.string t)) := by
      show World.cell? _ _ = _
      rw [World.cell?_setCell_other _ _ _ _ (by intro e; injection e with e; exact HNE.out e)]
      exact HP2.out
    obtain ⟨m, hm⟩ : ∃ m, tkN o = m := ⟨_, rfl⟩
    rw [hm]
    have hcont0 : inCont child deep b fl s2 1 = rcQ 3 s2 o := by
      have h0 : inLeaf b fl s2 = o.map fun x => (1, 3, x.1, x.2) := by
        unfold inLeaf
        rw [if_pos hcv, HO.out]
      unfold inCont
      rw [if_neg (by rw [hcv]; decide), if_neg (by rw [hcv]; decide), if_neg (by rw [hcv]; decide), h0]
      cases o <;> rfl
    have HC0 := Lib.hid hcont0
    have HV := Lib.hid (And.intro hv hm)
    clear hv hm hcont0
    go_upto_region 24 with fail
    generalize V1.setCell ⟨gx, 1, none⟩ (.int .i64 3) = V3 at *
    clear y1 fy1 HX2 HB2 HP2
    cases o with
    | none =>
      simp only [Option.isSome_none]
      have hre : inNodeG child deep b fl s 0 = .error 2 := by
        unfold inNodeG
        rw [HP.out]
        dsimp only
        rw [if_pos rfl, H2.out.1, show 0 + 1 = 1 from rfl, HC0.out]
        rfl
      have HRE := Lib.hid hre
      clear hre
      go_wp2_with fail
      go_ret3
      rw [HRE.out]
      exact ⟨rfl, HB3.out, by decide⟩
    | some x =>
      obtain ⟨vl, m'⟩ := x
      simp only [Option.isSome_some]
      have hvb : byt v = vl := HV.out.1
      obtain rfl : m' = m := HV.out.2
      have hcb := contR_byte HE.out.byte HC0.out
      have hvz : v.size ≤ 400000 := by
        rw [← byt_len, hvb]
        have := hcb.2
        simp only [HE.out.len] at this
        omega
      have hml : s2 + m' ≤ n := by
        have := takeD_len HO.out
        rw [List.length_drop, HE.out.len] at this
        omega
      obtain ⟨e1, he1⟩ : ∃ e1, s2 + m' = e1 := ⟨_, rfl⟩
      have he1z : (s2 : Int) + (m' : Int) = (e1 : Int) := by omega
      have HE1 := Lib.hid he1
      have HVB := Lib.hid hvb
      clear hvb hcb he1
      have HX4 : Hid (Box (((V3.setCell ⟨gx, 0, none⟩ (.int .i64 1)).setCell ⟨gx, 4, none⟩ (.string v)).setCell ⟨gx, 6, none⟩ (.int .i64 (e1 : Int))) gx [.int .i64 1, .int .i64 3, .string ⟨#[]⟩, .string a, .string v, .int .i64 (st0 : Int), .int .i64 (e1 : Int), .int .i64 0, .int .i64 0, .slice none 0 0]) := (((HX3.out.set 0 (.int .i64 1)).set 4 (.string v)).set 6 (.int .i64 (e1 : Int)))
      have HB4 : Hid (Below W.heap.size W (((V3.setCell ⟨gx, 0, none⟩ (.int .i64 1)).setCell ⟨gx, 4, none⟩ (.string v)).setCell ⟨gx, 6, none⟩ (.int .i64 (e1 : Int)))) := (((HB3.out.setCell (p := ⟨gx, 0, none⟩) HGX.out (.int .i64 1)).setCell (p := ⟨gx, 4, none⟩) HGX.out (.string v)).setCell (p := ⟨gx, 6, none⟩) HGX.out (.int .i64 (e1 : Int)))
      have HP4 : Hid (World.cell? (((V3.setCell ⟨gx, 0, none⟩ (.int .i64 1)).setCell ⟨gx, 4, none⟩ (.string v)).setCell ⟨gx, 6, none⟩ (.int .i64 (e1 : Int))) ⟨gp, 0, none⟩ = some (.string t)) := by
        show World.cell? _ _ = _
        rw [World.cell?_setCell_other _ _ _ _ (by intro e; injection e with e; exact HNE.out e), World.cell?_setCell_other _ _ _ _ (by intro e; injection e with e; exact HNE.out e), World.cell?_setCell_other _ _ _ _ (by intro e; injection e with e; exact HNE.out e)]
        exact HP3.out
      have y0 := HX3.out.cell 0 _ rfl
      have fy0 := HX3.out.frozen 0
      have y4 := HX3.out.cell 4 _ rfl
      have fy4 := HX3.out.frozen 4
      have y6 := HX3.out.cell 6 _ rfl
      have fy6 := HX3.out.frozen 6
      go_upto_region 39 with fail
      generalize (((V3.setCell ⟨gx, 0, none⟩ (.int .i64 1)).setCell ⟨gx, 4, none⟩ (.string v)).setCell ⟨gx, 6, none⟩ (.int .i64 (e1 : Int))) = V4 at *
      clear HX3 HB3 HP3 he1z
      clear y0 fy0 y4 fy4 y6 fy6
      have x5 := HX4.out.cell 5 _ rfl
      have x7 := HX4.out.cell 7 _ rfl
      have f7 := HX4.out.frozen 7
      have x8 := HX4.out.cell 8 _ rfl
      have f8 := HX4.out.frozen 8
      have HX5 : Hid (Box ((V4.setCell ⟨gx, 7, none⟩ (.int .i64 (st0 : Int))).setCell ⟨gx, 8, none⟩ (.int .i64 (st0 : Int))) gx [.int .i64 1, .int .i64 3, .string ⟨#[]⟩, .string a, .string v, .int .i64 (st0 : Int), .int .i64 (e1 : Int), .int .i64 (st0 : Int), .int .i64 (st0 : Int), .slice none 0 0]) := (HX4.out.set 7 _).set 8 _
      have HB5 : Hid (Below W.heap.size W ((V4.setCell ⟨gx, 7, none⟩ (.int .i64 (st0 : Int))).setCell ⟨gx, 8, none⟩ (.int .i64 (st0 : Int)))) := (HB4.out.setCell (p := ⟨gx, 7, none⟩) HGX.out _).setCell (p := ⟨gx, 8, none⟩) HGX.out _
      have HP5 : Hid (((V4.setCell ⟨gx, 7, none⟩ (.int .i64 (st0 : Int))).setCell ⟨gx, 8, none⟩ (.int .i64 (st0 : Int))).cell? ⟨gp, 0, none⟩ = some (.string t)) := by
        show World.cell? _ _ = _
        rw [World.cell?_setCell_other _ _ _ _ (by intro e; injection e with e; exact HNE.out e), World.cell?_setCell_other _ _ _ _ (by intro e; injection e with e; exact HNE.out e)]
        exact HP4.out
      go_upto_region 40 with fail
      generalize (V4.setCell ⟨gx, 7, none⟩ (.int .i64 (st0 : Int))).setCell ⟨gx, 8, none⟩ (.int .i64 (st0 : Int)) = V5 at *
      clear x5 x7 f7 x8 f8 HX4 HB4 HP4
      obtain ⟨r, hrr⟩ : ∃ r, strOfNums (inTag 1 3 (byt t) (byt v)) = r := ⟨_, rfl⟩
      have HRR := Lib.hid hrr
      have x0 := HX5.out.cell 0 _ rfl
      have x1 := HX5.out.cell 1 _ rfl
      have x4 := HX5.out.cell 4 _ rfl
      have p5 := HP5.out
      clear hrr
      go_wp2_with fail
      refine (rtag_at (w := V5) (W := V5) (Below.refl _ _) 1 3 t v (by omega) r HRR.out).mono ?_
      rintro e V6 ⟨rfl, hb6⟩
      have HX6 := Lib.hid (HX5.out.below hb6)
      have x2 := HX6.out.cell 2 _ rfl
      have f2 := HX6.out.frozen 2
      have HX7 := Lib.hid (HX6.out.set 2 (.string r))
      have HB7 : Hid (Below W.heap.size W (V6.setCell ⟨gx, 2, none⟩ (.string r))) := (below_step HB5.out hb6).setCell (p := ⟨gx, 2, none⟩) HGX.out _
      clear x0 x1 x4 p5 hb6 HX5 HB5 HP5
      go_upto_region 41 with fail
      generalize V6.setCell ⟨gx, 2, none⟩ (.string r) = V7 at *
      clear x2 f2 HX6
      have HX8 : Hid (Box V7.drew gx [.int .i64 1, .int .i64 3, .string r, .string a, .string v, .int .i64 (st0 : Int), .int .i64 (e1 : Int), .int .i64 (st0 : Int), .int .i64 (st0 : Int), .slice none 0 0]) := HX7.out.below (Below.refl _ _).drew
      have HB8 : Hid (Below W.heap.size W V7.drew) := HB7.out.drew
      clear HX7 HB7
      refine gen_act fun a0 hA => ?_
      have hsz : a0.tmps.size = 208 := by rw [hA]; rfl
      have e15 : a0.eval (.tmp 15) = .pointer (some ⟨gx, 0, none⟩) := by rw [hA]; rfl
      refine region_gate (fun V => Box V gx [.int .i64 1, .int .i64 3, .string r, .string a, .string v, .int .i64 (st0 : Int), .int .i64 (e1 : Int), .int .i64 (st0 : Int), .int .i64 (st0 : Int), .slice none 0 0]) 5 (by kernel_rfl) ?_
      change wpGate _ _ _ _ _ _ 7 _ _ _
      generalize V7.drew = V8 at *
      refine gate_take0 (i := 2) (v := .pointer (some ⟨gx, 6, none⟩)) rfl (by rfl) (by kernel_rfl) (by kernel_rfl) (by kernel_rfl) (fun _ _ _ h => h) rfl (fun V => field6_exec _ (.tmp 15) rfl _ V gx e15) HX8.out ?_
      refine gate_take (i := 0) (v := .agg #[.int .i64 1, .int .i64 3, .string r, .string a, .string v, .int .i64 (st0 : Int), .int .i64 (e1 : Int), .int .i64 (st0 : Int), .int .i64 (st0 : Int), .slice none 0 0]) rfl (by rfl) (by kernel_rfl) (by kernel_rfl) (by kernel_rfl) (by kernel_rfl) (by kernel_rfl) (fun _ _ _ h => h) rfl (fun V hV => load10 _ (.tmp 15) rfl _ V gx _ _ _ _ _ _ _ _ _ _ (by simp [evp_ne, e15]) hV) HX8.out ?_
      refine gate_take (i := 3) (v := .int .i64 (e1 : Int)) rfl (by rfl) (by kernel_rfl) (by kernel_rfl) (by kernel_rfl) (by kernel_rfl) (by kernel_rfl) (fun _ _ _ h => h) rfl (fun V hV => by
        have c6 := hV.cell 6 _ rfl
        have e206 : ((a0.put (some 206) (.pointer (some ⟨gx, 6, none⟩))).put (some 204) (.agg #[.int .i64 1, .int .i64 3, .string r, .string a, .string v, .int .i64 (st0 : Int), .int .i64 (e1 : Int), .int .i64 (st0 : Int), .int .i64 (st0 : Int), .slice none 0 0])).eval (.tmp 206) = .pointer (some ⟨gx, 6, none⟩) := by simp [evp_same, evp_ne, szp, hsz]
        exact loadI_exec _ (.tmp 206) rfl _ V _ _ e206 c6) HX8.out ?_
      obtain ⟨V9, hV9⟩ : ∃ z, V8.alloc (.cells #[.int .i64 1, .int .i64 3, .string r, .string a, .string v, .int .i64 (st0 : Int), .int .i64 (e1 : Int), .int .i64 (st0 : Int), .int .i64 (st0 : Int), .slice none 0 0] 41) = z := ⟨_, rfl⟩
      have hb9 : Below V8.heap.size V8 V9 := by rw [← hV9]; exact (Below.refl _ _).alloc (Nat.le_refl _) _
      have HX9 := Lib.hid (HX8.out.below hb9)
      refine gate_one (i := 1) (by kernel_rfl) ?_
      refine wpOp_value (w' := V9) (v := .slice (some ⟨V8.heap.size, 0, none⟩) 1 1) rfl rfl (by rw [← hV9]; exact build1_exec _ (.tmp 204) rfl _ V8 _ _ _ _ _ _ _ _ _ _ (by simp [evp_same, evp_ne, szp, hsz])) ⟨fun _ => HX9.out, ?_⟩
      refine gate_one (i := 4) (by kernel_rfl) ?_
      refine wpOp_value (w' := V9) (v := .slice (some ⟨V8.heap.size, 0, none⟩) 1 1) rfl rfl (by simp [execOp, kput_none, evp_same, evp_ne, szp, hsz]) ⟨fun _ => HX9.out, ?_⟩
      refine gate_one (i := 5) (by kernel_rfl) ?_
      refine wpOp_value (w' := V9) (v := .int .i64 (e1 : Int)) rfl rfl (by simp [execOp, kput_none, evp_same, evp_ne, szp, hsz]) ⟨fun _ => HX9.out, ?_⟩
      refine gate_one (i := 6) (by kernel_rfl) ?_
      refine wpOp_value (w' := V9) (v := .int .i64 0) rfl rfl (by simp [execOp]; rfl) ⟨fun _ => HX9.out, ?_⟩
      refine gate_done (by kernel_rfl) ?_ _
      subst hA
      clear hsz e15
      go_wp2_with fail
      simp only [Act.put, List.setIfInBounds_toArray, List.set_cons_zero, List.set_cons_succ]
      have er : strOfNums (inTag 1 3 tg (byt v)) = r := by have := HRR.out; rw [HTA.out.1] at this; exact this
      have ea : strOfNums an = a := by rw [← HTA.out.2, strOfNums_byt]
      have hr : inNodeG child deep b fl s 0 = .ok ([⟨1, 3, inTag 1 3 tg (byt v), an, byt v, st0, e1, st0, st0, []⟩], e1) := by
        unfold inNodeG
        rw [HP.out]
        dsimp only
        rw [if_pos rfl, H2.out.1]
        have hcont : inCont child deep b fl s2 (0 + 1) = .ok ({ Nd.nil with kind := 1, style := 3, value := byt v }, [], e1) := by
          have h := HC0.out
          unfold rcQ at h
          dsimp only at h
          rw [HE1.out] at h
          rw [HVB.out]
          exact h
        rw [hcont]
        simp only [inDone]
        rw [if_neg (by rintro ⟨h, _⟩; cases h), if_neg (by decide)]
        have e := HST.out
        rw [e]
        simp [inFin, Nd.nil]
      have hone := Nds.one (B := W.heap.size) V8 HB8.out.size ⟨1, 3, inTag 1 3 tg (byt v), an, byt v, st0, e1, st0, st0, []⟩ rfl
      have hcc : (ndC ((⟨1, 3, inTag 1 3 tg (byt v), an, byt v, st0, e1, st0, st0, []⟩ : Nd), .slice none 0 0)).toArray = #[.int .i64 1, .int .i64 3, .string r, .string a, .string v, .int .i64 (st0 : Int), .int .i64 (e1 : Int), .int .i64 (st0 : Int), .int .i64 (st0 : Int), .slice none 0 0] := by
        simp only [ndC, er, ea, strOfNums_byt]
      rw [hcc, hV9] at hone
      refine bodyPost_ret (v := .tuple #[.slice (some ⟨V8.heap.size, 0, none⟩) 1 1, .int .i64 (e1 : Int), .int .i64 0]) (by simp [results, Try.results75, go_sem]) rfl ?_
      rw [hr]
      exact ⟨_, _, rfl, hone, rfl, below_step HB8.out hb9⟩
end
section
variable {w W : World} {A : Option Addr} {n c s k s2 : Nat} {b tg an : List Int} {fl : Bool} {d : Int} {child : Nat → Nat → InR} {deep : Bool}
set_option maxHeartbeats 8000000 in
theorem rnodeQ39_at (E : REnv w A n c b) (hw : Below w.heap.size w W) (hs : s ≤ n) (hp : Pr.takeP (b.drop s) = (tg, an, k, true)) (h2 : inBlk b (s + k) = s2) (hcv : b.getD s2 0 = 39) :
    Calls Try.prog 75 #[.slice A n c, .int .i64 (s : Int), .bool fl, .int .i64 d] W (RNodeP W (inNodeG child deep b fl s 0)) := by
  have hn := E.small
  have hnc := E.le
  have hcm := E.cap
  have HE := Lib.hid E
  have HW := Lib.hid hw
  have hkl : s + k ≤ n := by
    have := takeP_len (b.drop s)
    rw [hp, List.length_drop, E.len] at this
    simp only at this
    omega
  have hk1 : (Pr.takeP (b.drop s)).2.2.1 = k := by rw [hp]
  have hk2 : (Pr.takeP (b.drop s)).2.2.2 = true := by rw [hp]
  have hk3 : (Pr.takeP (b.drop s)).1 = tg := by rw [hp]
  have hk4 : (Pr.takeP (b.drop s)).2.1 = an := by rw [hp]
  obtain ⟨As, hsls, hAs, hrds⟩ := slice_l _ n c s b E.len E.le E.nil hs
  have HRS := Lib.hid (And.intro hrds hAs)
  obtain ⟨s1, hs1⟩ : ∃ s1, s + k = s1 := ⟨_, rfl⟩
  have hs1z : (s : Int) + (k : Int) = (s1 : Int) := by omega
  have hs1n : s1 ≤ n := by omega
  have h2' := h2
  rw [hs1] at h2'
  obtain ⟨A2, hsl2, -, hrd2⟩ := slice_l _ n c s1 b E.len E.le E.nil hs1n
  obtain ⟨kk, hkk⟩ : ∃ z, blkF (b.drop s1) = z := ⟨_, rfl⟩
  have hsum : (s1 : Int) + (kk : Int) = (s2 : Int) := by rw [← h2', ← hkk]; unfold inBlk; omega
  have hs2n : s2 ≤ n := by rw [← h2', ← E.len]; exact blk_le (by rw [E.len]; exact hs1n)
  have hs12 : s1 ≤ s2 := by rw [← h2']; exact blk_ge b _
  obtain ⟨A3, hsl3, hA3, hrd3⟩ := slice_l _ n c s2 b E.len E.le E.nil hs2n
  obtain ⟨st0, hst0⟩ : ∃ z, (if k = 0 then s2 else s) = z := ⟨_, rfl⟩
  have HST := Lib.hid hst0
  have HRD2 := Lib.hid hrd2
  have HRD3 := Lib.hid (And.intro hrd3 hA3)
  have HKK := Lib.hid hkk
  have HP := Lib.hid hp
  have H2 := Lib.hid (And.intro h2 hs1)
  have HK := Lib.hid (And.intro hk1 (And.intro hk2 (And.intro hk3 hk4)))
  clear E hw hp h2 h2' hs1 hkk hrds hAs hrd2 hrd3 hA3 hst0 hk1 hk2 hk3 hk4
  go_enter Try.func75, Try.ntmps75
  go_wp2_with fail
  refine (Pr.refTake_any As (n - s) (c - s) (b.drop s) W (by rw [List.length_drop, HE.out.len]) (by omega) (by omega) HRS.out.2 (HE.out.byte.drop s) (HRS.out.1 _ (HE.out.rd.below HW.out))).mono ?_
  rintro e W0 ⟨t, a, ht, ha, rfl, hb0⟩
  rw [HK.out.2.2.1] at ht
  rw [HK.out.2.2.2] at ha
  rw [HK.out.1, HK.out.2.1]
  have HTA := Lib.hid (And.intro ht ha)
  have HB0 := Lib.hid hb0
  clear ht ha hb0 hsls HRS
  go_upto_region 2 with fail
  obtain ⟨W1, hW1⟩ : ∃ W1, W0.alloc (.cells #[.string t, .string a] 113) = W1 := ⟨_, rfl⟩
  obtain ⟨gp, hgp⟩ : ∃ g, W0.heap.size = g := ⟨_, rfl⟩
  have hb1 : Below W0.heap.size W0 W1 := by rw [← hW1]; exact (Below.refl _ _).alloc (Nat.le_refl _) _
  have p0 : W1.cell? ⟨gp, 0, none⟩ = some (.string t) := by rw [← hW1, ← hgp, World.cell?_alloc_mark]; rfl
  have p1 : W1.cell? ⟨gp, 1, none⟩ = some (.string a) := by rw [← hW1, ← hgp, World.cell?_alloc_mark]; rfl
  have hs1w : W1.heap.size = gp + 1 := by rw [← hW1, ← hgp]; simp
  rw [hW1, hgp]
  have HB1 : Hid (Below W.heap.size W W1) := below_step HB0.out hb1
  have HGP : Hid (W.heap.size ≤ gp) := by show W.heap.size ≤ gp; rw [← hgp]; exact HB0.out.size
  clear hW1 hgp hb1 HB0
  have P1 := Lib.hid p0
  go_wp2_with fail
  refine (refBlanks_any A2 (n - s1) (c - s1) (b.drop s1) W1 (by rw [List.length_drop, HE.out.len]) (by omega) (by omega) (HRD2.out _ (HE.out.rd.below (below_step HW.out HB1.out)))).mono ?_
  rintro e w' ⟨rfl, rfl⟩
  rw [HKK.out]
  clear hsl2 HRD2
  go_upto_region 7 with fail
  obtain ⟨W2, hW2⟩ : ∃ W2, W1.alloc (.cells #[.int .i64 0, .int .i64 0, .string ⟨#[]⟩, .string a, .string ⟨#[]⟩, .int .i64 (s : Int), .int .i64 0, .int .i64 0, .int .i64 0, .slice none 0 0] 41) = W2 := ⟨_, rfl⟩
  obtain ⟨gx, hgx⟩ : ∃ g, gp + 1 = g := ⟨_, rfl⟩
  have bx : Box W2 gx [.int .i64 0, .int .i64 0, .string ⟨#[]⟩, .string a, .string ⟨#[]⟩, .int .i64 (s : Int), .int .i64 0, .int .i64 0, .int .i64 0, .slice none 0 0] := by rw [← hW2, ← hgx, ← hs1w]; exact Box.new W1 _
  have hb2 : Below W1.heap.size W1 W2 := by rw [← hW2]; exact (Below.refl _ _).alloc (Nat.le_refl _) _
  rw [hgx, hW2]
  have p2 : W2.cell? ⟨gp, 0, none⟩ = some (.string t) := cell_keep hb2 p0
  have hne : gx ≠ gp := by omega
  have HNE := Lib.hid hne
  have HB2 : Hid (Below W.heap.size W W2) := below_step HB1.out hb2
  have HX2 := Lib.hid bx
  have HGX : Hid (W.heap.size ≤ gx) := by show W.heap.size ≤ gx; have := HGP.out; omega
  clear hW2 hgx hb2 p0 p1 hs1w bx hne HB1 HGP P1
  have P2 := Lib.hid p2
  clear p2
  have x5 := HX2.out.cell 5 _ rfl
  have f5 := HX2.out.frozen 5
  go_upto_if 48 with fail
  go_cut [14] from 49 to 50 (fun v U => v = .int .i64 (s2 : Int) ∧ Hid (Box U gx [.int .i64 0, .int .i64 0, .string ⟨#[]⟩, .string a, .string ⟨#[]⟩, .int .i64 (st0 : Int), .int .i64 0, .int .i64 0, .int .i64 0, .slice none 0 0] ∧ U.cell? ⟨gp, 0, none⟩ = some (.string t) ∧ Below W.heap.size W U))
  case first =>
    by_cases hk0 : k = 0
    · have hst : s2 = st0 := by have := HST.out; rw [if_pos hk0] at this; exact this
      have HST1 := Lib.hid hst
      clear hst
      subst hk0
      simp only [show ((0 : Nat) : Int) = 0 from rfl]
      go_wp2_with fail
      go_meet
      refine ⟨rfl, ?_, ?_, ?_⟩
      · rw [← HST1.out]; exact HX2.out.set 5 (.int .i64 (s2 : Int))
      · rw [World.cell?_setCell_other _ _ _ _ (by intro e; injection e with e; exact HNE.out e)]; exact P2.out
      · exact HB2.out.setCell (p := ⟨gx, 5, none⟩) HGX.out _
    · have hst : s = st0 := by have := HST.out; rw [if_neg hk0] at this; exact this
      have HST1 := Lib.hid hst
      have hk0' : ¬ (k : Int) = 0 := by omega
      have hk0'' : ((k : Int) == 0) = false := beq_eq_false_iff_ne.2 hk0'
      clear hst
      go_wp2_with fail
      go_meet
      refine ⟨rfl, ?_, P2.out, HB2.out⟩
      rw [← HST1.out]; exact HX2.out
  case rest =>
    obtain ⟨rfl, HC⟩ := hcut
    obtain ⟨V, hV⟩ : ∃ z, z = wc := ⟨_, rfl⟩
    subst hV
    have HX : Hid (Box V gx [.int .i64 0, .int .i64 0, .string ⟨#[]⟩, .string a, .string ⟨#[]⟩, .int .i64 (st0 : Int), .int .i64 0, .int .i64 0, .int .i64 0, .slice none 0 0]) := HC.out.1
    have HP0 : Hid (V.cell? ⟨gp, 0, none⟩ = some (.string t)) := HC.out.2.1
    have HB : Hid (Below W.heap.size W V) := HC.out.2.2
    have HWV : Hid (Below w.heap.size w V) := below_step HW.out HB.out
    clear HC x5 f5 HX2 P2 HB2
    have hlt : s2 < n := by rw [← HE.out.len]; exact getD_lt (by rw [hcv]; decide)
    obtain ⟨aa, oo, hAe, hcell⟩ := (HE.out.rd.below HWV.out).addr (by rw [HE.out.len]; omega)
    have cs := hcell s2 (by rw [HE.out.len]; exact hlt)
    rw [hcv] at cs
    subst hAe
    have dlt : (s2 : Int) < (n : Int) := by omega
    clear hcell
    obtain ⟨o, ho⟩ : ∃ o, Sg.takeS (b.drop s2) = o := ⟨_, rfl⟩
    have HO := Lib.hid ho
    clear ho
    go_wp2_with fail
    refine (refTake_any A3 (n - s2) (c - s2) (b.drop s2) V (by rw [List.length_drop, HE.out.len]) (by omega) (by omega) (by omega) (HE.out.byte.drop s2) (HRD3.out.1 _ (HE.out.rd.below HWV.out)) _ rfl).mono ?_
    rintro e V0 ⟨v0, hv0, rfl, hb0⟩
    have HX0 := Lib.hid (HX.out.below hb0)
    have HP00 : Hid (V0.cell? ⟨gp, 0, none⟩ = some (.string t)) := cell_keep hb0 HP0.out
    have HB00 := Lib.hid (below_step HB.out hb0)
    have y1 := HX0.out.cell 1 _ rfl
    have fy1 := HX0.out.frozen 1
    have HX1 := Lib.hid (HX0.out.set 1 (.int .i64 3))
    have HB1 : Hid (Below W.heap.size W (V0.setCell ⟨gx, 1, none⟩ (.int .i64 3))) := HB00.out.setCell (p := ⟨gx, 1, none⟩) HGX.out _
    have HP1 : Hid ((V0.setCell ⟨gx, 1, none⟩ (.int .i64 3)).cell? ⟨gp, 0, none⟩ = some (.string t)) := by
      show World.cell? _ _ = _
      rw [World.cell?_setCell_other _ _ _ _ (by intro e; injection e with e; exact HNE.out e)]
      exact HP00.out
    generalize tkN (takeD (b.drop s2)) = m0
    generalize (takeD (b.drop s2)).isSome = ok0
    clear hv0 hb0
    go_upto_region 21 with fail
    generalize V0.setCell ⟨gx, 1, none⟩ (.int .i64 3) = V1 at *
    clear y1 fy1 HX0 HP00 HB00 HX HP0 HB
    have HWV1 : Hid (Below w.heap.size w V1) := below_step HW.out HB1.out
    go_wp2_with fail
    refine (Sg.refTake_any A3 (n - s2) (c - s2) (b.drop s2) V1 (by rw [List.length_drop, HE.out.len]) (by omega) (by omega) (by omega) (HE.out.byte.drop s2) (HRD3.out.1 _ (HE.out.rd.below HWV1.out)) o HO.out).mono ?_
    rintro e V2 ⟨v, hv, rfl, hb1⟩
    have HX2 := Lib.hid (HX1.out.below hb1)
    have HP2 : Hid (V2.cell? ⟨gp, 0, none⟩ = some (.string t)) := cell_keep hb1 HP1.out
    have HB2 := Lib.hid (below_step HB1.out hb1)
    clear hb1 HX1 HP1 HB1 hsl3 cs
    have y1 := HX2.out.cell 1 _ rfl
    have fy1 := HX2.out.frozen 1
    have HX3 := Lib.hid (HX2.out.set 1 (.int .i64 2))
    have HB3 : Hid (Below W.heap.size W (V2.setCell ⟨gx, 1, none⟩ (.int .i64 2))) := HB2.out.setCell (p := ⟨gx, 1, none⟩) HGX.out _
    have HP3 : Hid ((V2.setCell ⟨gx, 1, none⟩ (.int .i64 2)).cell? ⟨gp, 0, none⟩ = some (.string t)) := by
      show World.cell? _ _ = _
      rw [World.cell?_setCell_other _ _ _ _ (by intro e; injection e with e; exact HNE.out e)]
      exact HP2.out
    obtain ⟨m, hm⟩ : ∃ m, Sg.tkN o = m := ⟨_, rfl⟩
    rw [hm]
    have hcont0 : inCont child deep b fl s2 1 = rcQ 2 s2 o := by
      have h0 : inLeaf b fl s2 = o.map fun x => (1, 2, x.1, x.2) := by
        unfold inLeaf
        rw [if_neg (by rw [hcv]; decide), if_pos hcv, HO.out]
      unfold inCont
      rw [if_neg (by rw [hcv]; decide), if_neg (by rw [hcv]; decide), if_neg (by rw [hcv]; decide), h0]
      cases o <;> rfl
    have HC0 := Lib.hid hcont0
    have HV := Lib.hid (And.intro hv hm)
    clear hv hm hcont0
    go_upto_region 24 with fail
    generalize V2.setCell ⟨gx, 1, none⟩ (.int .i64 2) = V3 at *
    clear y1 fy1 HX2 HB2 HP2
    cases o with
    | none =>
      simp only [Option.isSome_none]
      have hre : inNodeG child deep b fl s 0 = .error 2 := by
        unfold inNodeG
        rw [HP.out]
        dsimp only
        rw [if_pos rfl, H2.out.1, show 0 + 1 = 1 from rfl, HC0.out]
        rfl
      have HRE := Lib.hid hre
      clear hre
      go_wp2_with fail
      go_ret3
      rw [HRE.out]
      exact ⟨rfl, HB3.out, by decide⟩
    | some x =>
      obtain ⟨vl, m'⟩ := x
      simp only [Option.isSome_some]
      have hvb : byt v = vl := HV.out.1
      obtain rfl : m' = m := HV.out.2
      have hcb := contR_byte HE.out.byte HC0.out
      have hvz : v.size ≤ 400000 := by
        rw [← byt_len, hvb]
        have := hcb.2
        simp only [HE.out.len] at this
        omega
      have hml : s2 + m' ≤ n := by
        have := (Sg.takeS_sgl _ _ _ HO.out).2.1
        rw [List.length_drop, HE.out.len] at this
        omega
      obtain ⟨e1, he1⟩ : ∃ e1, s2 + m' = e1 := ⟨_, rfl⟩
      have he1z : (s2 : Int) + (m' : Int) = (e1 : Int) := by omega
      have HE1 := Lib.hid he1
      have HVB := Lib.hid hvb
      clear hvb hcb he1
      have HX4 : Hid (Box (((V3.setCell ⟨gx, 0, none⟩ (.int .i64 1)).setCell ⟨gx, 4, none⟩ (.string v)).setCell ⟨gx, 6, none⟩ (.int .i64 (e1 : Int))) gx [.int .i64 1, .int .i64 2, .string ⟨#[]⟩, .string a, .string v, .int .i64 (st0 : Int), .int .i64 (e1 : Int), .int .i64 0, .int .i64 0, .slice none 0 0]) := (((HX3.out.set 0 (.int .i64 1)).set 4 (.string v)).set 6 (.int .i64 (e1 : Int)))
      have HB4 : Hid (Below W.heap.size W (((V3.setCell ⟨gx, 0, none⟩ (.int .i64 1)).setCell ⟨gx, 4, none⟩ (.string v)).setCell ⟨gx, 6, none⟩ (.int .i64 (e1 : Int)))) := (((HB3.out.setCell (p := ⟨gx, 0, none⟩) HGX.out (.int .i64 1)).setCell (p := ⟨gx, 4, none⟩) HGX.out (.string v)).setCell (p := ⟨gx, 6, none⟩) HGX.out (.int .i64 (e1 : Int)))
      have HP4 : Hid (World.cell? (((V3.setCell ⟨gx, 0, none⟩ (.int .i64 1)).setCell ⟨gx, 4, none⟩ (.string v)).setCell ⟨gx, 6, none⟩ (.int .i64 (e1 : Int))) ⟨gp, 0, none⟩ = some (.string t)) := by
        show World.cell? _ _ = _
        rw [World.cell?_setCell_other _ _ _ _ (by intro e; injection e with e; exact HNE.out e), World.cell?_setCell_other _ _ _ _ (by intro e; injection e with e; exact HNE.out e), World.cell?_setCell_other _ _ _ _ (by intro e; injection e with e; exact HNE.out e)]
        exact HP3.out
      have y0 := HX3.out.cell 0 _ rfl
      have fy0 := HX3.out.frozen 0
      have y4 := HX3.out.cell 4 _ rfl
      have fy4 := HX3.out.frozen 4
      have y6 := HX3.out.cell 6 _ rfl
      have fy6 := HX3.out.frozen 6
      go_upto_region 39 with fail
      generalize (((V3.setCell ⟨gx, 0, none⟩ (.int .i64 1)).setCell ⟨gx, 4, none⟩ (.string v)).setCell ⟨gx, 6, none⟩ (.int .i64 (e1 : Int))) = V4 at *
      clear HX3 HB3 HP3 he1z
      clear y0 fy0 y4 fy4 y6 fy6
      have x5 := HX4.out.cell 5 _ rfl
      have x7 := HX4.out.cell 7 _ rfl
      have f7 := HX4.out.frozen 7
      have x8 := HX4.out.cell 8 _ rfl
      have f8 := HX4.out.frozen 8
      have HX5 : Hid (Box ((V4.setCell ⟨gx, 7, none⟩ (.int .i64 (st0 : Int))).setCell ⟨gx, 8, none⟩ (.int .i64 (st0 : Int))) gx [.int .i64 1, .int .i64 2, .string ⟨#[]⟩, .string a, .string v, .int .i64 (st0 : Int), .int .i64 (e1 : Int), .int .i64 (st0 : Int), .int .i64 (st0 : Int), .slice none 0 0]) := (HX4.out.set 7 _).set 8 _
      have HB5 : Hid (Below W.heap.size W ((V4.setCell ⟨gx, 7, none⟩ (.int .i64 (st0 : Int))).setCell ⟨gx, 8, none⟩ (.int .i64 (st0 : Int)))) := (HB4.out.setCell (p := ⟨gx, 7, none⟩) HGX.out _).setCell (p := ⟨gx, 8, none⟩) HGX.out _
      have HP5 : Hid (((V4.setCell ⟨gx, 7, none⟩ (.int .i64 (st0 : Int))).setCell ⟨gx, 8, none⟩ (.int .i64 (st0 : Int))).cell? ⟨gp, 0, none⟩ = some (.string t)) := by
        show World.cell? _ _ = _
        rw [World.cell?_setCell_other _ _ _ _ (by intro e; injection e with e; exact HNE.out e), World.cell?_setCell_other _ _ _ _ (by intro e; injection e with e; exact HNE.out e)]
        exact HP4.out
      go_upto_region 40 with fail
      generalize (V4.setCell ⟨gx, 7, none⟩ (.int .i64 (st0 : Int))).setCell ⟨gx, 8, none⟩ (.int .i64 (st0 : Int)) = V5 at *
      clear x5 x7 f7 x8 f8 HX4 HB4 HP4
      obtain ⟨r, hrr⟩ : ∃ r, strOfNums (inTag 1 2 (byt t) (byt v)) = r := ⟨_, rfl⟩
      have HRR := Lib.hid hrr
      have x0 := HX5.out.cell 0 _ rfl
      have x1 := HX5.out.cell 1 _ rfl
      have x4 := HX5.out.cell 4 _ rfl
      have p5 := HP5.out
      clear hrr
      go_wp2_with fail
      refine (rtag_at (w := V5) (W := V5) (Below.refl _ _) 1 2 t v (by omega) r HRR.out).mono ?_
      rintro e V6 ⟨rfl, hb6⟩
      have HX6 := Lib.hid (HX5.out.below hb6)
      have x2 := HX6.out.cell 2 _ rfl
      have f2 := HX6.out.frozen 2
      have HX7 := Lib.hid (HX6.out.set 2 (.string r))
      have HB7 : Hid (Below W.heap.size W (V6.setCell ⟨gx, 2, none⟩ (.string r))) := (below_step HB5.out hb6).setCell (p := ⟨gx, 2, none⟩) HGX.out _
      clear x0 x1 x4 p5 hb6 HX5 HB5 HP5
      go_upto_region 41 with fail
      generalize V6.setCell ⟨gx, 2, none⟩ (.string r) = V7 at *
      clear x2 f2 HX6
      have HX8 : Hid (Box V7.drew gx [.int .i64 1, .int .i64 2, .string r, .string a, .string v, .int .i64 (st0 : Int), .int .i64 (e1 : Int), .int .i64 (st0 : Int), .int .i64 (st0 : Int), .slice none 0 0]) := HX7.out.below (Below.refl _ _).drew
      have HB8 : Hid (Below W.heap.size W V7.drew) := HB7.out.drew
      clear HX7 HB7
      refine gen_act fun a0 hA => ?_
      have hsz : a0.tmps.size = 208 := by rw [hA]; rfl
      have e15 : a0.eval (.tmp 15) = .pointer (some ⟨gx, 0, none⟩) := by rw [hA]; rfl
      refine region_gate (fun V => Box V gx [.int .i64 1, .int .i64 2, .string r, .string a, .string v, .int .i64 (st0 : Int), .int .i64 (e1 : Int), .int .i64 (st0 : Int), .int .i64 (st0 : Int), .slice none 0 0]) 5 (by kernel_rfl) ?_
      change wpGate _ _ _ _ _ _ 7 _ _ _
      generalize V7.drew = V8 at *
      refine gate_take0 (i := 2) (v := .pointer (some ⟨gx, 6, none⟩)) rfl (by rfl) (by kernel_rfl) (by kernel_rfl) (by kernel_rfl) (fun _ _ _ h => h) rfl (fun V => field6_exec _ (.tmp 15) rfl _ V gx e15) HX8.out ?_
      refine gate_take (i := 0) (v := .agg #[.int .i64 1, .int .i64 2, .string r, .string a, .string v, .int .i64 (st0 : Int), .int .i64 (e1 : Int), .int .i64 (st0 : Int), .int .i64 (st0 : Int), .slice none 0 0]) rfl (by rfl) (by kernel_rfl) (by kernel_rfl) (by kernel_rfl) (by kernel_rfl) (by kernel_rfl) (fun _ _ _ h => h) rfl (fun V hV => load10 _ (.tmp 15) rfl _ V gx _ _ _ _ _ _ _ _ _ _ (by simp [evp_ne, e15]) hV) HX8.out ?_
      refine gate_take (i := 3) (v := .int .i64 (e1 : Int)) rfl (by rfl) (by kernel_rfl) (by kernel_rfl) (by kernel_rfl) (by kernel_rfl) (by kernel_rfl) (fun _ _ _ h => h) rfl (fun V hV => by
        have c6 := hV.cell 6 _ rfl
        have e206 : ((a0.put (some 206) (.pointer (some ⟨gx, 6, none⟩))).put (some 204) (.agg #[.int .i64 1, .int .i64 2, .string r, .string a, .string v, .int .i64 (st0 : Int), .int .i64 (e1 : Int), .int .i64 (st0 : Int), .int .i64 (st0 : Int), .slice none 0 0])).eval (.tmp 206) = .pointer (some ⟨gx, 6, none⟩) := by simp [evp_same, evp_ne, szp, hsz]
        exact loadI_exec _ (.tmp 206) rfl _ V _ _ e206 c6) HX8.out ?_
      obtain ⟨V9, hV9⟩ : ∃ z, V8.alloc (.cells #[.int .i64 1, .int .i64 2, .string r, .string a, .string v, .int .i64 (st0 : Int), .int .i64 (e1 : Int), .int .i64 (st0 : Int), .int .i64 (st0 : Int), .slice none 0 0] 41) = z := ⟨_, rfl⟩
      have hb9 : Below V8.heap.size V8 V9 := by rw [← hV9]; exact (Below.refl _ _).alloc (Nat.le_refl _) _
      have HX9 := Lib.hid (HX8.out.below hb9)
      refine gate_one (i := 1) (by kernel_rfl) ?_
      refine wpOp_value (w' := V9) (v := .slice (some ⟨V8.heap.size, 0, none⟩) 1 1) rfl rfl (by rw [← hV9]; exact build1_exec _ (.tmp 204) rfl _ V8 _ _ _ _ _ _ _ _ _ _ (by simp [evp_same, evp_ne, szp, hsz])) ⟨fun _ => HX9.out, ?_⟩
      refine gate_one (i := 4) (by kernel_rfl) ?_
      refine wpOp_value (w' := V9) (v := .slice (some ⟨V8.heap.size, 0, none⟩) 1 1) rfl rfl (by simp [execOp, kput_none, evp_same, evp_ne, szp, hsz]) ⟨fun _ => HX9.out, ?_⟩
      refine gate_one (i := 5) (by kernel_rfl) ?_
      refine wpOp_value (w' := V9) (v := .int .i64 (e1 : Int)) rfl rfl (by simp [execOp, kput_none, evp_same, evp_ne, szp, hsz]) ⟨fun _ => HX9.out, ?_⟩
      refine gate_one (i := 6) (by kernel_rfl) ?_
      refine wpOp_value (w' := V9) (v := .int .i64 0) rfl rfl (by simp [execOp]; rfl) ⟨fun _ => HX9.out, ?_⟩
      refine gate_done (by kernel_rfl) ?_ _
      subst hA
      clear hsz e15
      go_wp2_with fail
      simp only [Act.put, List.setIfInBounds_toArray, List.set_cons_zero, List.set_cons_succ]
      have er : strOfNums (inTag 1 2 tg (byt v)) = r := by have := HRR.out; rw [HTA.out.1] at this; exact this
      have ea : strOfNums an = a := by rw [← HTA.out.2, strOfNums_byt]
      have hr : inNodeG child deep b fl s 0 = .ok ([⟨1, 2, inTag 1 2 tg (byt v), an, byt v, st0, e1, st0, st0, []⟩], e1) := by
        unfold inNodeG
        rw [HP.out]
        dsimp only
        rw [if_pos rfl, H2.out.1]
        have hcont : inCont child deep b fl s2 (0 + 1) = .ok ({ Nd.nil with kind := 1, style := 2, value := byt v }, [], e1) := by
          have h := HC0.out
          unfold rcQ at h
          dsimp only at h
          rw [HE1.out] at h
          rw [HVB.out]
          exact h
        rw [hcont]
        simp only [inDone]
        rw [if_neg (by rintro ⟨h, _⟩; cases h), if_neg (by decide)]
        have e := HST.out
        rw [e]
        simp [inFin, Nd.nil]
      have hone := Nds.one (B := W.heap.size) V8 HB8.out.size ⟨1, 2, inTag 1 2 tg (byt v), an, byt v, st0, e1, st0, st0, []⟩ rfl
      have hcc : (ndC ((⟨1, 2, inTag 1 2 tg (byt v), an, byt v, st0, e1, st0, st0, []⟩ : Nd), .slice none 0 0)).toArray = #[.int .i64 1, .int .i64 2, .string r, .string a, .string v, .int .i64 (st0 : Int), .int .i64 (e1 : Int), .int .i64 (st0 : Int), .int .i64 (st0 : Int), .slice none 0 0] := by
        simp only [ndC, er, ea, strOfNums_byt]
      rw [hcc, hV9] at hone
      refine bodyPost_ret (v := .tuple #[.slice (some ⟨V8.heap.size, 0, none⟩) 1 1, .int .i64 (e1 : Int), .int .i64 0]) (by simp [results, Try.results75, go_sem]) rfl ?_
      rw [hr]
      exact ⟨_, _, rfl, hone, rfl, below_step HB8.out hb9⟩
end
section
variable {w : World} {A : Option Addr} {n c : Nat} {b : List Int}
set_option maxHeartbeats 8000000 in
theorem seq_at (E : REnv w A n c b) {f : Nat} (C : RNodeC w A n c b f) (W : World) (hw : Below w.heap.size w W) (s : Nat) (hs : s + 1 ≤ n) (d : Int) (hd0 : 0 ≤ d) (hd1 : d < 64) (hf : (64 - (d + 1)).toNat = f) (x : Nd) (hxk : x.kind = 2) (hkd : x.kids = []) :
    Calls Try.prog 91 #[.slice A n c, .int .i64 ((s : Int) + 1), .agg (ndC (x, .slice none 0 0)).toArray, .int .i64 d] W (InsP W x (inColl (inItem (inNode f b true)) b 93 s 1)) := by
  have hn := E.small
  have hnc := E.le
  have hcm := E.cap
  have HE := Lib.hid E
  have HC := Lib.hid C
  have HW := Lib.hid hw
  obtain ⟨tg, htg⟩ : ∃ t, strOfNums x.tag = t := ⟨_, rfl⟩
  obtain ⟨an, han⟩ : ∃ t, strOfNums x.anchor = t := ⟨_, rfl⟩
  obtain ⟨vl, hvl⟩ : ∃ t, strOfNums x.value = t := ⟨_, rfl⟩
  have hcx : (ndC (x, .slice none 0 0)).toArray = #[.int .i64 2, .int .i64 x.style, .string tg, .string an, .string vl, .int .i64 (x.st : Int), .int .i64 (x.en : Int), .int .i64 (x.hd : Int), .int .i64 (x.mr : Int), .slice none 0 0] := by
    rw [← htg, ← han, ← hvl, ← hxk]; rfl
  rw [hcx]
  have HCX := Lib.hid hcx
  have HKD := Lib.hid hkd
  obtain ⟨i0, hi0⟩ : ∃ i0, s + 1 = i0 := ⟨_, rfl⟩
  have hz0 : (s : Int) + 1 = (i0 : Int) := by omega
  rw [hz0]
  have HI0 := Lib.hid hi0
  have hi0n : i0 ≤ n := by omega
  obtain ⟨A0, hsl0, -, hrd0⟩ := slice_l _ n c i0 b HE.out.len HE.out.le HE.out.nil (by omega)
  obtain ⟨a, ha⟩ : ∃ a, inBlk b i0 = a := ⟨_, rfl⟩
  obtain ⟨kk0, hkk0⟩ : ∃ k, blkF (b.drop i0) = k := ⟨_, rfl⟩
  have hsum0 : ((i0 : Nat) : Int) + (kk0 : Int) = (a : Int) := by rw [← ha, ← hkk0]; unfold inBlk; omega
  have hle0 : a ≤ n := by rw [← ha, ← HE.out.len]; exact blk_le (by rw [HE.out.len]; omega)
  have hge0 : i0 ≤ a := by rw [← ha]; exact blk_ge b _
  have HBL0 := Lib.hid (And.intro ha hkk0)
  have HRD0 := Lib.hid hrd0
  clear ha hkk0 hrd0
  clear E C hw hxk hkd hcx htg han hvl hz0 hi0 hs
  go_enter Try.func91, Try.ntmps91
  go_upto_region 5 with fail
  obtain ⟨W1, hW1⟩ : ∃ W1, W.alloc (.cells #[.int .i64 2, .int .i64 x.style, .string tg, .string an, .string vl, .int .i64 (x.st : Int), .int .i64 (x.en : Int), .int .i64 (x.hd : Int), .int .i64 (x.mr : Int), .slice none 0 0] 41) = W1 := ⟨_, rfl⟩
  obtain ⟨gx, hgx⟩ : ∃ g, W.heap.size = g := ⟨_, rfl⟩
  have bx : Box W1 gx [.int .i64 2, .int .i64 x.style, .string tg, .string an, .string vl, .int .i64 (x.st : Int), .int .i64 (x.en : Int), .int .i64 (x.hd : Int), .int .i64 (x.mr : Int), .slice none 0 0] := by rw [← hW1, ← hgx]; exact Box.new W _
  have hb1 : Below W.heap.size W W1 := by rw [← hW1]; exact (Below.refl _ _).alloc (Nat.le_refl _) _
  have hs1 : W1.heap.size = gx + 1 := by rw [← hW1, ← hgx]; simp
  rw [hW1, hgx]
  obtain ⟨B, hB⟩ : ∃ B, gx + 1 = B := ⟨_, rfl⟩
  rw [hB]
  rw [hB] at hs1
  have hone := Nds.one (B := W1.heap.size) W1 (Nat.le_refl _) x HKD.out
  rw [HCX.out] at hone
  obtain ⟨W2, hW2⟩ : ∃ W2, W1.alloc (.cells #[.int .i64 2, .int .i64 x.style, .string tg, .string an, .string vl, .int .i64 (x.st : Int), .int .i64 (x.en : Int), .int .i64 (x.hd : Int), .int .i64 (x.mr : Int), .slice none 0 0] 41) = W2 := ⟨_, rfl⟩
  have hb2 : Below W1.heap.size W1 W2 := by rw [← hW2]; exact (Below.refl _ _).alloc (Nat.le_refl _) _
  rw [hW2] at hone
  have hone2 : Nds W1.heap.size W2 (.slice (some ⟨B, 0, none⟩) 1 1) [(x, .slice none 0 0)] := by rw [← hs1]; exact hone
  rw [hW2]
  have HS1 := Lib.hid (And.intro hs1 (And.intro hB hgx))
  have HBX := Lib.hid bx
  have HB1 := Lib.hid hb1
  have HB2 := Lib.hid hb2
  have H2 := Lib.hid hone2
  have HW1 : Hid (Below w.heap.size w W1) := below_step HW.out hb1
  have HW2 : Hid (Below w.heap.size w W2) := below_step HW1.out hb2
  have HWW : Hid (∀ V, Below W1.heap.size W1 V → Below w.heap.size w V ∧ Below W.heap.size W V ∧ Box V gx [.int .i64 2, .int .i64 x.style, .string tg, .string an, .string vl, .int .i64 (x.st : Int), .int .i64 (x.en : Int), .int .i64 (x.hd : Int), .int .i64 (x.mr : Int), .slice none 0 0]) := fun V hV => ⟨below_step HW1.out hV, below_step HB1.out hV, HBX.out.below hV⟩
  clear hW1 hW2 hgx hB hs1 bx hb1 hb2 hone hone2
  obtain ⟨r, hres⟩ : ∃ r, inColl (inItem (inNode f b true)) b 93 s 1 = r := ⟨_, rfl⟩
  have HRES := Lib.hid hres
  have hr0 : ∀ tt : Bool, tt = true → r = if (tt = true ∧ b.getD a 0 = 93) then .ok ([], lst [], a + 1) else inLoop (inItem (inNode f b true)) b 93 (b.length + 1) a (1 + ([] : List NK).length) [] (lst []) := by
    intro tt htt
    rw [← hres]; unfold inColl; rw [HI0.out, HBL0.out.1]
    by_cases h : b.getD a 0 = 93
    · rw [if_pos h, if_pos ⟨htt, h⟩]; rfl
    · rw [if_neg h, if_neg (fun e => h e.2)]; rfl
  have HR0 := Lib.hid hr0
  have hidm : inBlk b a = a := by rw [← HBL0.out.1]; exact blk_idem b i0
  have HID := Lib.hid hidm
  clear hres hr0 hidm
  go_wp2_with fail
  refine (refBlanks_any A0 (n - i0) (c - i0) (b.drop i0) W2 (by rw [List.length_drop, HE.out.len]) (by omega) (by omega) (HRD0.out _ (HE.out.rd.below HW2.out))).mono ?_
  rintro e w' ⟨rfl, rfl⟩
  rw [HBL0.out.2]
  go_wp2_with fail
  go_loopg [1, 12, 13] (n - a) (fun G u1 u12 u13 V => ∃ (sc Gf m g cap : Nat) (ks : List Nat) (k8 : Value) (Q : List NK) (fst : Bool), sc + G = n ∧ u1 = .int .i64 (sc : Int) ∧ u12 = .slice (some ⟨g, 0, none⟩) m cap ∧ m ≤ cap ∧ cap ≤ 9223372036854775807 ∧ u13 = .bool fst ∧
    Hid (r = (if fst = true ∧ b.getD sc 0 = 93 then .ok (ks, lst Q, sc + 1) else inLoop (inItem (inNode f b true)) b 93 (Gf + 1) sc (1 + Q.length) ks (lst Q)) ∧ n - sc ≤ Gf ∧ inBlk b sc = sc ∧ m = 1 + Q.length ∧ Nds W1.heap.size V (.slice (some ⟨g, 0, none⟩) m cap) (({ x with kids := ks }, k8) :: Q) ∧ Below W1.heap.size W1 V ∧ 1 + Q.length ≤ sc + 1 ∧ ks.length ≤ sc + 1))
  case atStart => exact ⟨a, b.length, 1, B, 1, [], .slice none 0 0, [], true, by omega, rfl, rfl, Nat.le_refl _, by omega, rfl, HR0.out true rfl, by rw [HE.out.len]; omega, HID.out, rfl, by have := H2.out; rw [← HKD.out]; exact this, HB2.out, by simp, by simp⟩
  case round =>
    obtain ⟨sc, Gf, m, g, cap, ks, k8, Q, fst, hsc, rfl, rfl, hmc, hcap, rfl, HK⟩ := hrel
    obtain ⟨V, hV⟩ : ∃ x, x = wr := ⟨_, rfl⟩
    subst hV
    clear HR0 HID HBL0 HRD0 HB2 H2 HW2 HCX hi0n
    have HVB : Hid (Below W1.heap.size W1 V) := HK.out.2.2.2.2.2.1
    have bk := (HWW.out V HVB.out).2.2.cell 0 _ rfl
    have hscn : sc ≤ n := by omega
    have hbz : blkF (b.drop sc) = 0 := by have := HK.out.2.2.1; unfold inBlk at this; omega
    have HBZ := Lib.hid hbz
    have HN : Hid (Nds W1.heap.size V (.slice (some ⟨g, 0, none⟩) m cap) (({ x with kids := ks }, k8) :: Q)) := HK.out.2.2.2.2.1
    have hmQ : 1 + Q.length = m := HK.out.2.2.2.1.symm
    have hgf : n - sc ≤ Gf := HK.out.2.1
    have hsz1 : 1 + Q.length ≤ sc + 1 := HK.out.2.2.2.2.2.2.1
    have hsz2 : ks.length ≤ sc + 1 := HK.out.2.2.2.2.2.2.2
    obtain ⟨t, ht⟩ : ∃ t, (fst && (decide (sc < n) && (b.getD sc 0 == 93))) = t := ⟨_, rfl⟩
    have hrt : (t = true → r = .ok (ks, lst Q, sc + 1)) ∧ (t = false → r = inLoop (inItem (inNode f b true)) b 93 (Gf + 1) sc (1 + Q.length) ks (lst Q)) := by
      have h := HK.out.1
      constructor
      · intro e
        rw [e] at ht
        simp only [Bool.and_eq_true, decide_eq_true_eq, beq_iff_eq] at ht
        rw [h, if_pos ⟨ht.1, ht.2.2⟩]
      · intro e
        rw [e] at ht
        rw [h, if_neg]
        rintro ⟨h1, h2⟩
        have h3 : sc < n := by rw [← HE.out.len]; exact getD_lt (by rw [h2]; decide)
        rw [h1, h2, decide_eq_true h3] at ht
        exact Bool.noConfusion ht
    have HT := Lib.hid ht
    have HRT := Lib.hid hrt
    have hmpos : 0 < m := by omega
    have hmposI : (0 : Int) < (m : Int) := by omega
    have hmne : ¬ m = 0 := by omega
    clear hbz ht hrt HK
    go_upto_region 8 with fail
    go_cut [48] from 34 to 48 (fun v U => v = .bool t ∧ V = U)
    case first =>
      cases fst with
      | false =>
        have ht := HT.out
        simp only [Bool.false_and] at ht
        subst ht
        go_wp2_with fail
        go_meet
        exact ⟨rfl, rfl⟩
      | true =>
        by_cases hlt : sc < n
        · obtain ⟨aA, oA, hA, hcA⟩ := (HE.out.rd.below (HWW.out V HVB.out).1).addr (by rw [HE.out.len]; omega)
          have cA := hcA sc (by rw [HE.out.len]; exact hlt)
          subst hA
          have dlt : (sc : Int) < (n : Int) := by omega
          have ht := HT.out
          rw [decide_eq_true hlt] at ht
          simp only [Bool.true_and] at ht
          clear hcA
          generalize b.getD sc 0 = xb at cA ht
          subst ht
          go_wp2_with fail
          go_meet
          exact ⟨rfl, rfl⟩
        · have dlt : ¬ (sc : Int) < (n : Int) := by omega
          have dlt' : decide ((sc : Int) < (n : Int)) = false := decide_eq_false dlt
          have ht := HT.out
          rw [decide_eq_false hlt] at ht
          simp only [Bool.true_and, Bool.false_and] at ht
          subst ht
          go_wp2_with fail
          go_meet
          exact ⟨rfl, rfl⟩
    case rest =>
      obtain ⟨rfl, rfl⟩ := hcut
      cases t with
      | true =>
        have hr := HRT.out.1 rfl
        have HR := Lib.hid hr
        obtain ⟨c6, f6, h6⟩ := HN.out.endAt (by rw [List.length_cons]; omega) (sc + 1) ((sc : Int) + 1) (by omega)
        have H6 := Lib.hid h6
        have hg8 : W1.heap.size ≤ g := (HN.out.blockB (k := g) rfl).1
        clear hr h6 HT HRT
        go_wp2_with fail
        go_ret3
        rw [HRES.out, HR.out]
        exact ⟨_, _, rfl, H6.out.low HB1.out.size, rfl, ((HWW.out _ HVB.out).2.1).setCell (p := ⟨g, 6, none⟩) (Nat.le_trans HB1.out.size hg8) _⟩
      | false =>
        have hr := HRT.out.2 rfl
        rw [rloop_succ] at hr
        clear HT HRT
        obtain ⟨sv, hsv0⟩ : ∃ sv, sv = sc := ⟨_, rfl⟩
        have hrv : r = (match inNode f b true sc 0 with
            | .error e => .error e
            | .ok (l, m2) => if m2 = sc then .error 2 else Aft (inItem (inNode f b true)) b 93 Gf m2 (1 + Q.length + (mvL m l).length) (ks ++ [m]) (lst Q ++ mvL m l)) := by
          rw [hr]
          unfold inItem
          rw [node_base, hmQ]
          cases inNode f b true sc 0 with
          | error e => rfl
          | ok y =>
            obtain ⟨l, m2⟩ := y
            simp only [mvR]
            by_cases h : m2 = sc
            · rw [if_pos h, if_pos h]
            · rw [if_neg h, if_neg h]
        subst hsv0
        have HRV := Lib.hid hrv
        have hsv : sv ≤ n := hscn
        clear hr hrv
        obtain ⟨A1, hsl1, -, hrd1⟩ := slice_l A n c sv b HE.out.len HE.out.le HE.out.nil hscn
        have HRD1 := Lib.hid hrd1
        clear hrd1
        go_wp2_with fail
        refine (refBlanks_any A1 (n - sv) (c - sv) (b.drop sv) V (by rw [List.length_drop, HE.out.len]) (by omega) (by omega) (HRD1.out _ (HE.out.rd.below (HWW.out V HVB.out).1))).mono ?_
        rintro e w' ⟨rfl, rfl⟩
        rw [HBZ.out]
        simp only [show ((0 : Nat) : Int) = 0 from rfl]
        clear hsl1
        go_wp2_with fail
        refine (HC.out V sv true (d + 1) (HWW.out V HVB.out).1 hsv (by omega) (by omega) hf).mono ?_
        intro e V2 h2
        obtain ⟨r2, hr2⟩ : ∃ r2, inNode f b true sv 0 = r2 := ⟨_, rfl⟩
        rw [hr2] at h2
        have hrl := HRV.out
        rw [hr2] at hrl
        have HRL := Lib.hid hrl
        have HR2 := Lib.hid hr2
        clear hrl hr2 HRV
        cases r2 with
        | error qe =>
          obtain ⟨rfl, hb2, hq0⟩ := h2
          have hne : (qe != 0) = true := bne_iff_ne.2 hq0
          have HE2 := Lib.hid (And.intro hb2 hq0)
          clear hb2 hq0
          go_wp2_with fail
          go_ret3
          have hre : r = .error qe := HRL.out
          rw [HRES.out, hre]
          exact ⟨rfl, below_step (HWW.out V HVB.out).2.1 HE2.out.1, HE2.out.2⟩
        | ok yy =>
          obtain ⟨l, m2⟩ := yy
          obtain ⟨v2, P2, rfl, hN2, hl2, hb2⟩ := h2
          have hsb : sv ≤ b.length := by rw [HE.out.len]; exact hsv
          have hz := node_size b f true sv 0 l m2 hsb HR2.out
          rw [HE.out.len] at hz
          have hkz := node_kids b f true sv 0 l m2 HR2.out
          have hkl := node_lens b f true sv 0 l m2 HR2.out
          obtain ⟨y, tl, rfl, hyh, hym, hless⟩ := node_head f b true sv 0 l m2 hsb HR2.out
          obtain ⟨p, T, rfl⟩ : ∃ p T, P2 = p :: T := by
            cases P2 with
            | nil => simp [lst] at hl2
            | cons p T => exact ⟨p, T, rfl⟩
          have hp1 : p.1 = y := by simp [lst] at hl2; exact hl2.1
          have hT : lst T = tl := by simp [lst] at hl2; exact hl2.2
          obtain ⟨gl, capl, rfl, hgl1, hgl2, hgl3, hgl4⟩ := hN2.form (by simp)
          have y0 : V2.cell? ⟨gl, 0, none⟩ = some (.int .i64 y.kind) := by have := hN2.cell (i := 0) (p := p) rfl 0 _ rfl; rw [hp1] at this; exact this
          have y5 : V2.cell? ⟨gl, 5, none⟩ = some (.int .i64 (y.st : Int)) := by have := hN2.cell (i := 0) (p := p) rfl 5 _ rfl; rw [hp1] at this; exact this
          have y6 : V2.cell? ⟨gl, 6, none⟩ = some (.int .i64 (y.en : Int)) := by have := hN2.cell (i := 0) (p := p) rfl 6 _ rfl; rw [hp1] at this; exact this
          obtain ⟨ml, hml⟩ : ∃ ml, (p :: T).length = ml := ⟨_, rfl⟩
          have hml0 : (0 : Int) < (ml : Int) := by rw [List.length_cons] at hml; omega
          have hml1 : 0 < ml := by omega
          have hml2 : ¬ ml = 0 := by omega
          have hmlz : ml ≤ m2 - sv + 1 := by
            have h1 := hz.2.2.2.1
            rw [← hl2, lst_len, hml] at h1
            exact h1
          rw [hml] at hN2 hgl1 ⊢
          have HN2 := Lib.hid hN2
          have HL2 := Lib.hid (And.intro hT (And.intro hml hp1))
          have HB2' := Lib.hid hb2
          have HZ := Lib.hid (And.intro hz (And.intro hkz hkl))
          have HY := Lib.hid (And.intro hyh (And.intro hym hless))
          have hm2n : m2 ≤ n := hz.2.1
          have hsvm : sv ≤ m2 := hz.1
          obtain ⟨kd, hkd⟩ : ∃ k, y.kind = k := ⟨_, rfl⟩
          obtain ⟨st, hst⟩ : ∃ k, y.st = k := ⟨_, rfl⟩
          obtain ⟨en, hen⟩ : ∃ k, y.en = k := ⟨_, rfl⟩
          rw [hkd] at y0
          rw [hst] at y5
          rw [hen] at y6
          have HKS := Lib.hid (And.intro hkd (And.intro hst hen))
          have bk2 : V2.cell? ⟨gx, 0, none⟩ = some (.int .i64 2) := cell_keep hb2 bk
          obtain ⟨tx, htx⟩ : ∃ tx, decide (m2 = sv) = tx := ⟨_, rfl⟩
          have htx1 : kd = 0 → (decide (st = en)) = tx := by
            intro h
            rw [← htx]
            by_cases hse : st = en
            · rw [decide_eq_true hse, decide_eq_true (hless.2 (by rw [hkd, hst, hen]; exact ⟨h, hse⟩))]
            · rw [decide_eq_false hse, decide_eq_false (fun e => hse (by have := (hless.1 e).2; rw [hst, hen] at this; exact this))]
          have htx2 : ¬ kd = 0 → tx = false := by
            intro h
            rw [← htx, decide_eq_false (fun e => h (by have := (hless.1 e).1; rw [hkd] at this; exact this))]
          have HTX := Lib.hid (And.intro htx (And.intro htx1 htx2))
          clear hN2 hl2 hb2 hz hkz hkl hyh hym hless hkd hst hen hp1 hml hsb htx htx1 htx2 hT
          go_upto_region 26 with fail
          go_cut [163] from 148 to 163 (fun v U => v = .bool tx ∧ ∃ nq, U = V2.drewN nq)
          case first =>
            by_cases h0 : kd = 0
            · have ht := HTX.out.2.1 h0
              subst h0
              by_cases hse : st = en
              · rw [decide_eq_true hse] at ht
                subst ht hse
                go_quiet (fail)
                go_wp2_with fail
                go_meet
                exact ⟨rfl, _, rfl⟩
              · rw [decide_eq_false hse] at ht
                subst ht
                have e1 : ((st : Int) == (en : Int)) = false := beq_eq_false_iff_ne.2 (by omega)
                go_quiet (fail)
                go_wp2_with fail
                go_meet
                exact ⟨rfl, _, rfl⟩
            · have ht := HTX.out.2.2 h0
              subst ht
              have e1 : (kd == 0) = false := beq_eq_false_iff_ne.2 h0
              go_quiet (fail)
              go_wp2_with fail
              go_meet
              exact ⟨rfl, _, rfl⟩
          case rest =>
            obtain ⟨rfl, nq, rfl⟩ := hcut
            have HN3 := Lib.hid (HN2.out.below (below_draws (Below.refl _ _) nq))
            have HB3 := Lib.hid (below_draws HB2'.out nq)
            have z5 : (V2.drewN nq).cell? ⟨gl, 5, none⟩ = some (.int .i64 (st : Int)) := y5
            have z6 : (V2.drewN nq).cell? ⟨gl, 6, none⟩ = some (.int .i64 (en : Int)) := y6
            have bk3 : (V2.drewN nq).cell? ⟨gx, 0, none⟩ = some (.int .i64 2) := bk2
            clear y0 y5 y6 bk2 HN2 HB2'
            generalize V2.drewN nq = V3 at *
            cases tx with
            | true =>
              have hre : r = .error 2 := by
                have := HRL.out
                rw [this]
                rw [if_pos (of_decide_eq_true HTX.out.1)]
              have HRE := Lib.hid hre
              clear hre
              go_wp2_with fail
              go_ret3
              rw [HRES.out, HRE.out]
              exact ⟨rfl, below_step (HWW.out V HVB.out).2.1 HB3.out, by decide⟩
            | false =>
              have hrf : r = Aft (inItem (inNode f b true)) b 93 Gf m2 (1 + (Q ++ T).length + 1) (ks ++ [m]) (lst Q ++ mvL m (y :: tl)) := by
                have := HRL.out
                rw [this]
                rw [if_neg (of_decide_eq_false HTX.out.1)]
                congr 1
                rw [mvL_len, List.length_append, List.length_cons, ← HL2.out.1, lst_len]
                omega
              obtain ⟨L2, hL2⟩ : ∃ L2, y :: tl = L2 := ⟨_, rfl⟩
              have HRF : Hid (r = Aft (inItem (inNode f b true)) b 93 Gf m2 (1 + (Q ++ T).length + 1) (ks ++ [m]) (lst Q ++ mvL m L2)) := by show r = _; rw [← hL2]; exact hrf
              have hyy : ({ y with hd := st, mr := st } : Nd) = y := by
                have h1 := HY.out.1
                have h2 := HY.out.2.1
                rw [HKS.out.2.1] at h1 h2
                exact Nd.hm_eq y st h1 h2
              have HYY := Lib.hid hyy
              have HL3 := Lib.hid hL2
              clear hrf hyy hL2 HTX HRL HR2
              have HN4' : Hid (Nds V.heap.size ((V3.setCell ⟨gl, 7, none⟩ (.int .i64 (st : Int))).setCell ⟨gl, 8, none⟩ (.int .i64 (st : Int))).drew (.slice (some ⟨gl, 0, none⟩) ml capl) (({ p.1 with hd := st, mr := st }, p.2) :: T)) := (HN3.out.headMark HL2.out.2.1 st st).below (Below.refl _ _).drew
              have HB4' : Hid (Below V.heap.size V ((V3.setCell ⟨gl, 7, none⟩ (.int .i64 (st : Int))).setCell ⟨gl, 8, none⟩ (.int .i64 (st : Int))).drew) := ((HB3.out.setCell (p := ⟨gl, 7, none⟩) hgl3 _).setCell (p := ⟨gl, 8, none⟩) hgl3 _).drew
              have z7 : V3.cell? ⟨gl, 7, none⟩ = some (.int .i64 (p.1.hd : Int)) := by
                have := HN3.out
                rw [← HL2.out.2.1] at this
                exact this.cell (i := 0) (p := p) rfl 7 _ rfl
              have z8 : V3.cell? ⟨gl, 8, none⟩ = some (.int .i64 (p.1.mr : Int)) := by
                have := HN3.out
                rw [← HL2.out.2.1] at this
                exact this.cell (i := 0) (p := p) rfl 8 _ rfl
              have f7 : V3.frozen? ⟨gl, 7, none⟩ = false := by
                have := HN3.out
                rw [← HL2.out.2.1] at this
                exact this.frozen 7
              have f8 : V3.frozen? ⟨gl, 8, none⟩ = false := by
                have := HN3.out
                rw [← HL2.out.2.1] at this
                exact this.frozen 8
              have HSET : Hid (∀ (U : World) (j : Nat) (u : Value), j = 7 ∨ j = 8 → U.cell? ⟨gl, 5, none⟩ = some (.int .i64 (st : Int)) → (U.setCell ⟨gl, j, none⟩ u).cell? ⟨gl, 5, none⟩ = some (.int .i64 (st : Int))) := fun U j u hj hU => by
                rw [World.cell?_setCell_other _ _ _ _ (by intro e; injection e with _ e; omega)]; exact hU
              go_upto_region 30 with fail
              go_region_held3 (fun U => U.cell? ⟨gl, 5, none⟩ = some (.int .i64 (st : Int)))
                (first | exact z5 | exact HSET.out _ _ _ (.inl rfl) z5 | exact HSET.out _ _ _ (.inr rfl) z5 | exact HSET.out _ _ _ (.inr rfl) (HSET.out _ _ _ (.inl rfl) z5) | exact HSET.out _ _ _ (.inl rfl) (HSET.out _ _ _ (.inr rfl) z5))
                (fail)
              have HN4 : Hid (Nds V.heap.size ((V3.setCell ⟨gl, 7, none⟩ (.int .i64 (st : Int))).setCell ⟨gl, 8, none⟩ (.int .i64 (st : Int))).drew (.slice (some ⟨gl, 0, none⟩) ml capl) (({ p.1 with hd := st, mr := st }, p.2) :: T)) := HN4'
              have HB4 : Hid (Below V.heap.size V ((V3.setCell ⟨gl, 7, none⟩ (.int .i64 (st : Int))).setCell ⟨gl, 8, none⟩ (.int .i64 (st : Int))).drew) := HB4'
              clear HN4' HB4' HSET z5 z6 z7 z8 bk3 f7 f8 HN3 HB3
              generalize ((V3.setCell ⟨gl, 7, none⟩ (.int .i64 (st : Int))).setCell ⟨gl, 8, none⟩ (.int .i64 (st : Int))).drew = V4 at *
              have HN5 : Hid (Nds V.heap.size V4 (.slice (some ⟨gl, 0, none⟩) ml capl) ((y, p.2) :: T)) := by
                have := HN4.out
                rw [HL2.out.2.2, HYY.out] at this
                exact this
              have HLL : Hid (lst ((y, p.2) :: T) = L2) := by show y :: lst T = L2; rw [HL2.out.1]; exact HL3.out
              have HKQ : Hid (∀ q ∈ L2, ∃ q2 ∈ y :: tl, q2.kids = q.kids) := fun q hq => ⟨q, by rw [HL3.out]; exact hq, rfl⟩
              have bk4 := cell_keep HB4.out bk
              have hO := HN.out.below HB4.out
              obtain ⟨X, hX⟩ : ∃ X : NK, X = ({ x with kids := ks }, k8) := ⟨_, rfl⟩
              rw [← hX] at hO
              have hmQ0 : (X :: Q).length = m := by rw [List.length_cons]; omega
              have hV4 : Below W1.heap.size W1 V4 := below_step HVB.out HB4.out
              rw [← hmQ0] at hO
              obtain ⟨k9, V5, hrun9, c9, f9, ⟨A9, cap9, rfl⟩, hb9, hN9, hfr9⟩ := hO.kidMore hV4.size (i := 0) (p := X) rfl (by rw [hX]; show ks.length ≤ 400000; omega) m
              have c90 : V4.cell? ⟨g, 9, none⟩ = some X.2 := by have := hO.cell (i := 0) (p := X) rfl 9 _ rfl; exact this
              simp only [List.set_cons_zero, Nat.zero_mul, Nat.zero_add] at hN9 c9 f9 hb9 hfr9
              have hL6 := hfr9 V.heap.size _ _ HN5.out ((HN.out.blockB (k := g) rfl).2) (fun k hk => by
                rw [hX] at hk
                exact (HN.out.kidB (i := 0) (p := ({ x with kids := ks }, k8)) rfl hk).2)
              have hHV6 : Below W1.heap.size W1 (V5.setCell ⟨g, 9, none⟩ (.slice A9 (X.1.kids.length + 1) cap9)) := hV4.trans hb9
              rw [List.length_cons] at hN9
              have hmQ1 : Q.length + 1 = m := by omega
              rw [hmQ1] at hN9
              obtain ⟨kl, hkl9⟩ : ∃ kl, X.1.kids.length + 1 = kl := ⟨_, rfl⟩
              rw [hkl9] at hrun9 hN9 hL6 hHV6
              obtain ⟨xk, hxk⟩ : ∃ v, X.2 = v := ⟨_, rfl⟩
              rw [hxk] at hrun9 c9 c90
              have HRUN9 := Lib.hid hrun9
              have HN9 := Lib.hid hN9
              have HL6 := Lib.hid hL6
              have HV6 := Lib.hid hHV6
              have HX := Lib.hid hX
              have hmn : m ≤ n + 1 := by omega
              clear hrun9 hN9 hL6 hHV6 hb9 hfr9 hX hmQ0 hV4 hO hkl9 hxk HN5 HB4 HN
              go_wp2_with (at_builtin; refine wpList_append_known rfl (.tmp 206) (.tmp 208) 22 rfl xk (.slice (some ⟨V4.heap.size, 0, none⟩) 1 1) _ V5 rfl rfl HRUN9.out ?_)
              generalize V5.setCell ⟨g, 9, none⟩ (.slice A9 kl cap9) = V6 at *
              clear HRUN9 c9 f9 c90 bk4
              have hmlb : ml ≤ 100001 := by omega
              have hPL : ((y, p.2) :: T).length = ml := by rw [← HL2.out.2.1]; rfl
              refine (move_at HL6.out hPL hml1 (by omega) m (by omega) ?_).mono ?_
              · intro q hq
                have hq1 : q.1 ∈ L2 := by rw [← HLL.out]; exact List.mem_map.2 ⟨q, hq, rfl⟩
                have hkk : q.1.kids.length ≤ ml ∧ ∀ z ∈ q.1.kids, z < ml := by
                  have hlen : (y :: tl).length = ml := by rw [List.length_cons, ← HL2.out.1, lst_len]; have := HL2.out.2.1; rw [List.length_cons] at this; exact this
                  obtain ⟨q2, hq2, hqk⟩ : ∃ q2 ∈ y :: tl, q2.kids = q.1.kids := HKQ.out q.1 hq1
                  rw [← hqk]
                  have h1 := HZ.out.2.2 q2 hq2
                  have h2 := HZ.out.2.1 q2 hq2
                  rw [hlen] at h1
                  refine ⟨h1, fun z hz => ?_⟩
                  have := h2 z hz
                  rw [hlen] at this
                  omega
                exact ⟨by omega, fun z hz => by have := hkk.2 z hz; omega⟩
              rintro e V7 ⟨vm, QM, rfl, hNM, hLM, hbM⟩
              have hQM : QM.length = ml := by
                have := congrArg List.length hLM
                rw [lst_len, mvL_len, lst_len, hPL] at this
                exact this
              rw [HLL.out] at hLM
              obtain ⟨Am, capm, rfl, hcm1, hcm2, _⟩ := own_form hNM.row
              rw [hQM] at hNM hcm1 ⊢
              have hO7 := HN9.out.below hbM
              have hV7 : Below W1.heap.size W1 V7 := below_step HV6.out hbM
              obtain ⟨v8, V8, hrun8, ⟨A8, cap8, rfl⟩, hb8', hN8⟩ := hO7.app hV7.size hNM hQM HV6.out.size (fun k hk => HN9.out.blockB hk |>.2) (fun i q k hq hk => (HN9.out.kidB hq hk).2) (by
                rw [List.length_cons, hQM]
                omega)
              rw [List.length_cons, hmQ1] at hrun8 hN8
              obtain ⟨m8, hm8⟩ : ∃ m8, m + ml = m8 := ⟨_, rfl⟩
              rw [hm8] at hrun8 hN8
              obtain ⟨g8, rfl⟩ : ∃ g8, A8 = some ⟨g8, 0, none⟩ := by
                obtain ⟨g8, cp, e, _⟩ := hN8.form (by simp)
                simp only [Value.slice.injEq] at e
                exact ⟨g8, e.1⟩
              have hcap8 : m8 ≤ cap8 ∧ cap8 ≤ 9223372036854775807 := by
                obtain ⟨A', c', e, h1, h2, _⟩ := own_form hN8.row
                simp only [Value.slice.injEq] at e
                omega
              have hN8L : ((({ X.1 with kids := X.1.kids ++ [m] }, Value.slice A9 kl cap9) : NK) :: (Q ++ QM)).length = m8 := by
                rw [List.length_cons, List.length_append, hQM]; omega
              have HRUN8 := Lib.hid hrun8
              have HN8 : Hid (Nds W1.heap.size V8 (.slice (some ⟨g8, 0, none⟩) m8 cap8) ((({ x with kids := ks ++ [m] }, Value.slice A9 kl cap9) : NK) :: (Q ++ QM))) := by
                have h := hN8
                rw [HX.out] at h
                exact h
              rw [HX.out] at hN8L
              have HN8L : Hid (((({ x with kids := ks ++ [m] }, Value.slice A9 kl cap9) : NK) :: (Q ++ QM)).length = m8) := hN8L
              have hV8 : Below W1.heap.size W1 V8 := hV7.trans hb8'
              have HV8 := Lib.hid (And.intro hV8 (And.intro (HWW.out V8 hV8).1 (HWW.out V8 hV8).2.1))
              have HLM := Lib.hid (And.intro hLM hQM)
              have hrg : r = Aft (inItem (inNode f b true)) b 93 Gf m2 (1 + (Q ++ QM).length) (ks ++ [m]) (lst (Q ++ QM)) := by
                rw [lst_app, hLM, HRF.out]
                congr 1
                have h2 := HL2.out.2.1
                rw [List.length_cons] at h2
                rw [List.length_append, List.length_append, hQM]
                omega
              have HRG := Lib.hid hrg
              clear hrun8 hN8 hN8L hb8' hO7 hV7 hNM hLM hbM hQM hV8 hPL hrg HRF HX HLL HL6 HN9 HV6 HKQ HZ
              obtain ⟨A2, hsl2, -, hrd2⟩ := slice_l _ n c m2 b HE.out.len HE.out.le HE.out.nil (by omega)
              obtain ⟨a2, ha2⟩ : ∃ a, inBlk b m2 = a := ⟨_, rfl⟩
              obtain ⟨kk2, hkk2⟩ : ∃ k, blkF (b.drop m2) = k := ⟨_, rfl⟩
              have hsum2 : ((m2 : Nat) : Int) + (kk2 : Int) = (a2 : Int) := by rw [← ha2, ← hkk2]; unfold inBlk; omega
              have hle2 : a2 ≤ n := by rw [← ha2, ← HE.out.len]; exact blk_le (by rw [HE.out.len]; omega)
              have hge2 : m2 ≤ a2 := by rw [← ha2]; exact blk_ge b _
              have HBL2 := Lib.hid (And.intro ha2 hkk2)
              have HRD2 := Lib.hid hrd2
              clear ha2 hkk2 hrd2
              go_wp2_with (at_builtin; refine wpList_append_known rfl (.tmp 212) (.tmp 215) 26 rfl (.slice (some ⟨g, 0, none⟩) m cap) (.slice Am ml capm) _ V8 rfl rfl HRUN8.out ?_)
              refine (refBlanks_any A2 (n - m2) (c - m2) (b.drop m2) V8 (by rw [List.length_drop, HE.out.len]) (by omega) (by omega) (HRD2.out _ (HE.out.rd.below HV8.out.2.1))).mono ?_
              rintro e w' ⟨rfl, rfl⟩
              rw [HBL2.out.2]
              clear HRUN8
              have hr4 := HRG.out
              unfold Aft at hr4
              rw [HBL2.out.1] at hr4
              by_cases hlt2 : a2 < n
              · obtain ⟨aB, oB, hA, hcB⟩ := (HE.out.rd.below HV8.out.2.1).addr (by rw [HE.out.len]; omega)
                have cB := hcB a2 (by rw [HE.out.len]; exact hlt2)
                subst hA
                have dlt2 : (a2 : Int) < (n : Int) := by omega
                by_cases h93 : b.getD a2 0 = 93
                · rw [if_pos h93] at hr4
                  rw [h93] at cB
                  have HR4 := Lib.hid hr4
                  clear hr4 hcB h93
                  obtain ⟨c6, f6, h6⟩ := HN8.out.endAt HN8L.out (a2 + 1) ((a2 : Int) + 1) (by omega)
                  have hg8 : W1.heap.size ≤ g8 := (HN8.out.blockB (k := g8) rfl).1
                  have H6 := Lib.hid h6
                  have hm80 : 0 < m8 := by omega
                  have hm81 : (0 : Int) < (m8 : Int) := by omega
                  have hm82 : ¬ m8 = 0 := by omega
                  clear h6
                  go_wp2_with fail
                  go_ret3
                  rw [HRES.out, HR4.out]
                  exact ⟨_, _, rfl, H6.out.low HB1.out.size, rfl, HV8.out.2.2.setCell (p := ⟨g8, 6, none⟩) (Nat.le_trans HB1.out.size hg8) _⟩
                · rw [if_neg h93] at hr4
                  by_cases h44 : b.getD a2 0 = 44
                  · rw [if_pos h44] at hr4
                    rw [h44] at cB
                    obtain ⟨i3, hi3⟩ : ∃ i3, a2 + 1 = i3 := ⟨_, rfl⟩
                    rw [hi3] at hr4
                    have hi3z : (a2 : Int) + 1 = (i3 : Int) := by omega
                    have hi3n : i3 ≤ n := by omega
                    have HR4 := Lib.hid hr4
                    clear hr4 hcB h93 h44
                    obtain ⟨A3, hsl3, -, hrd3⟩ := slice_l _ n c i3 b HE.out.len HE.out.le HE.out.nil (by omega)
                    obtain ⟨a3, ha3⟩ : ∃ a, inBlk b i3 = a := ⟨_, rfl⟩
                    obtain ⟨kk3, hkk3⟩ : ∃ k, blkF (b.drop i3) = k := ⟨_, rfl⟩
                    have hsum3 : ((i3 : Nat) : Int) + (kk3 : Int) = (a3 : Int) := by rw [← ha3, ← hkk3]; unfold inBlk; omega
                    have hle3 : a3 ≤ n := by rw [← ha3, ← HE.out.len]; exact blk_le (by rw [HE.out.len]; omega)
                    have hge3 : i3 ≤ a3 := by rw [← ha3]; exact blk_ge b _
                    have HBL3 := Lib.hid (And.intro ha3 hkk3)
                    have HRD3 := Lib.hid hrd3
                    clear ha3 hkk3 hrd3
                    have HI3 := Lib.hid hi3z
                    rw [← hi3z] at hsl3 hsum3
                    clear hi3z
                    go_wp2_with fail
                    refine (refBlanks_any A3 (n - i3) (c - i3) (b.drop i3) V8 (by rw [List.length_drop, HE.out.len]) (by omega) (by omega) (HRD3.out _ (HE.out.rd.below HV8.out.2.1))).mono ?_
                    rintro e w' ⟨rfl, rfl⟩
                    rw [HBL3.out.2]
                    go_wp2_with fail
                    go_roundg (n - a3)
                    case rel =>
                      obtain ⟨Gg, rfl⟩ : ∃ Gg, Gf = Gg + 1 := ⟨Gf - 1, by omega⟩
                      have hrr := HR4.out
                      rw [HBL3.out.1] at hrr
                      have hQQ : m8 = 1 + (Q ++ QM).length := by have := HN8L.out; rw [List.length_cons] at this; omega
                      have hQl : (Q ++ QM).length = Q.length + ml := by rw [List.length_append, HLM.out.2]
                      refine ⟨a3, Gg, m8, g8, cap8, ks ++ [m], _, Q ++ QM, false, by omega, rfl, rfl, hcap8.1, hcap8.2, rfl, ?_, by omega, ?_, hQQ, HN8.out, HV8.out.1, by omega, by rw [List.length_append]; simp; omega⟩
                      · rw [if_neg (by rintro ⟨h, _⟩; cases h)]; exact hrr
                      · rw [← HBL3.out.1]; exact blk_idem b i3
                    case measure => omega
                  · rw [if_neg h44] at hr4
                    have HR4 := Lib.hid hr4
                    have q93 : (b.getD a2 0 == 93) = false := beq_eq_false_iff_ne.2 h93
                    have q44 : (b.getD a2 0 == 44) = false := beq_eq_false_iff_ne.2 h44
                    have q44' : (b.getD a2 0 != 44) = true := bne_iff_ne.2 h44
                    clear hr4 hcB h93 h44
                    generalize b.getD a2 0 = xb at cB q93 q44 q44'
                    go_wp2_with fail
                    go_ret3
                    rw [HRES.out, HR4.out]
                    exact ⟨rfl, HV8.out.2.2, by decide⟩
              · have h0 : b.getD a2 0 = 0 := by simp [List.getD, List.getElem?_eq_none (show b.length ≤ a2 by rw [HE.out.len]; omega)]
                rw [if_neg (by rw [h0]; decide), if_neg (by rw [h0]; decide)] at hr4
                have HR4 := Lib.hid hr4
                have dlt2 : decide ((a2 : Int) < (n : Int)) = false := decide_eq_false (by omega)
                have dlt3 : ¬ (a2 : Int) < (n : Int) := by omega
                have dlt4 : (n : Int) ≤ (a2 : Int) := by omega
                clear hr4 h0
                go_wp2_with fail
                go_ret3
                rw [HRES.out, HR4.out]
                exact ⟨rfl, HV8.out.2.2, by decide⟩
end
section
variable {w W : World} {A : Option Addr} {n c s k s2 : Nat} {b tg an : List Int} {fl : Bool} {d : Int} {child : Nat → Nat → InR} {deep : Bool}
set_option maxHeartbeats 8000000 in
theorem rnodeDeep91_at (E : REnv w A n c b) (hw : Below w.heap.size w W) (hs : s ≤ n) (hp : Pr.takeP (b.drop s) = (tg, an, k, true)) (h2 : inBlk b (s + k) = s2) (hcv : b.getD s2 0 = 91) (hdd : 64 ≤ d) (hdp : deep = true) :
    Calls Try.prog 75 #[.slice A n c, .int .i64 (s : Int), .bool fl, .int .i64 d] W (RNodeP W (inNodeG child deep b fl s 0)) := by
  have hn := E.small
  have hnc := E.le
  have hcm := E.cap
  have HE := Lib.hid E
  have HW := Lib.hid hw
  have hkl : s + k ≤ n := by
    have := takeP_len (b.drop s)
    rw [hp, List.length_drop, E.len] at this
    simp only at this
    omega
  have hk1 : (Pr.takeP (b.drop s)).2.2.1 = k := by rw [hp]
  have hk2 : (Pr.takeP (b.drop s)).2.2.2 = true := by rw [hp]
  have hk3 : (Pr.takeP (b.drop s)).1 = tg := by rw [hp]
  have hk4 : (Pr.takeP (b.drop s)).2.1 = an := by rw [hp]
  obtain ⟨As, hsls, hAs, hrds⟩ := slice_l _ n c s b E.len E.le E.nil hs
  have HRS := Lib.hid (And.intro hrds hAs)
  obtain ⟨s1, hs1⟩ : ∃ s1, s + k = s1 := ⟨_, rfl⟩
  have hs1z : (s : Int) + (k : Int) = (s1 : Int) := by omega
  have hs1n : s1 ≤ n := by omega
  have h2' := h2
  rw [hs1] at h2'
  obtain ⟨A2, hsl2, -, hrd2⟩ := slice_l _ n c s1 b E.len E.le E.nil hs1n
  obtain ⟨kk, hkk⟩ : ∃ z, blkF (b.drop s1) = z := ⟨_, rfl⟩
  have hsum : (s1 : Int) + (kk : Int) = (s2 : Int) := by rw [← h2', ← hkk]; unfold inBlk; omega
  have hs2n : s2 ≤ n := by rw [← h2', ← E.len]; exact blk_le (by rw [E.len]; exact hs1n)
  have hs12 : s1 ≤ s2 := by rw [← h2']; exact blk_ge b _
  obtain ⟨A3, hsl3, hA3, hrd3⟩ := slice_l _ n c s2 b E.len E.le E.nil hs2n
  obtain ⟨st0, hst0⟩ : ∃ z, (if k = 0 then s2 else s) = z := ⟨_, rfl⟩
  have HST := Lib.hid hst0
  have HRD2 := Lib.hid hrd2
  have HRD3 := Lib.hid (And.intro hrd3 hA3)
  have HKK := Lib.hid hkk
  have HP := Lib.hid hp
  have H2 := Lib.hid (And.intro h2 hs1)
  have HK := Lib.hid (And.intro hk1 (And.intro hk2 (And.intro hk3 hk4)))
  clear E hw hp h2 h2' hs1 hkk hrds hAs hrd2 hrd3 hA3 hst0 hk1 hk2 hk3 hk4
  go_enter Try.func75, Try.ntmps75
  go_wp2_with fail
  refine (Pr.refTake_any As (n - s) (c - s) (b.drop s) W (by rw [List.length_drop, HE.out.len]) (by omega) (by omega) HRS.out.2 (HE.out.byte.drop s) (HRS.out.1 _ (HE.out.rd.below HW.out))).mono ?_
  rintro e W0 ⟨t, a, ht, ha, rfl, hb0⟩
  rw [HK.out.2.2.1] at ht
  rw [HK.out.2.2.2] at ha
  rw [HK.out.1, HK.out.2.1]
  have HTA := Lib.hid (And.intro ht ha)
  have HB0 := Lib.hid hb0
  clear ht ha hb0 hsls HRS
  go_upto_region 2 with fail
  obtain ⟨W1, hW1⟩ : ∃ W1, W0.alloc (.cells #[.string t, .string a] 113) = W1 := ⟨_, rfl⟩
  obtain ⟨gp, hgp⟩ : ∃ g, W0.heap.size = g := ⟨_, rfl⟩
  have hb1 : Below W0.heap.size W0 W1 := by rw [← hW1]; exact (Below.refl _ _).alloc (Nat.le_refl _) _
  have p0 : W1.cell? ⟨gp, 0, none⟩ = some (.string t) := by rw [← hW1, ← hgp, World.cell?_alloc_mark]; rfl
  have p1 : W1.cell? ⟨gp, 1, none⟩ = some (.string a) := by rw [← hW1, ← hgp, World.cell?_alloc_mark]; rfl
  have hs1w : W1.heap.size = gp + 1 := by rw [← hW1, ← hgp]; simp
  rw [hW1, hgp]
  have HB1 : Hid (Below W.heap.size W W1) := below_step HB0.out hb1
  have HGP : Hid (W.heap.size ≤ gp) := by show W.heap.size ≤ gp; rw [← hgp]; exact HB0.out.size
  clear hW1 hgp hb1 HB0
  have P1 := Lib.hid p0
  go_wp2_with fail
  refine (refBlanks_any A2 (n - s1) (c - s1) (b.drop s1) W1 (by rw [List.length_drop, HE.out.len]) (by omega) (by omega) (HRD2.out _ (HE.out.rd.below (below_step HW.out HB1.out)))).mono ?_
  rintro e w' ⟨rfl, rfl⟩
  rw [HKK.out]
  clear hsl2 HRD2
  go_upto_region 7 with fail
  obtain ⟨W2, hW2⟩ : ∃ W2, W1.alloc (.cells #[.int .i64 0, .int .i64 0, .string ⟨#[]⟩, .string a, .string ⟨#[]⟩, .int .i64 (s : Int), .int .i64 0, .int .i64 0, .int .i64 0, .slice none 0 0] 41) = W2 := ⟨_, rfl⟩
  obtain ⟨gx, hgx⟩ : ∃ g, gp + 1 = g := ⟨_, rfl⟩
  have bx : Box W2 gx [.int .i64 0, .int .i64 0, .string ⟨#[]⟩, .string a, .string ⟨#[]⟩, .int .i64 (s : Int), .int .i64 0, .int .i64 0, .int .i64 0, .slice none 0 0] := by rw [← hW2, ← hgx, ← hs1w]; exact Box.new W1 _
  have hb2 : Below W1.heap.size W1 W2 := by rw [← hW2]; exact (Below.refl _ _).alloc (Nat.le_refl _) _
  rw [hgx, hW2]
  have p2 : W2.cell? ⟨gp, 0, none⟩ = some (.string t) := cell_keep hb2 p0
  have hne : gx ≠ gp := by omega
  have HNE := Lib.hid hne
  have HB2 : Hid (Below W.heap.size W W2) := below_step HB1.out hb2
  have HX2 := Lib.hid bx
  have HGX : Hid (W.heap.size ≤ gx) := by show W.heap.size ≤ gx; have := HGP.out; omega
  clear hW2 hgx hb2 p0 p1 hs1w bx hne HB1 HGP P1
  have P2 := Lib.hid p2
  clear p2
  have x5 := HX2.out.cell 5 _ rfl
  have f5 := HX2.out.frozen 5
  go_upto_if 48 with fail
  go_cut [14] from 49 to 50 (fun v U => v = .int .i64 (s2 : Int) ∧ Hid (Box U gx [.int .i64 0, .int .i64 0, .string ⟨#[]⟩, .string a, .string ⟨#[]⟩, .int .i64 (st0 : Int), .int .i64 0, .int .i64 0, .int .i64 0, .slice none 0 0] ∧ U.cell? ⟨gp, 0, none⟩ = some (.string t) ∧ Below W.heap.size W U))
  case first =>
    by_cases hk0 : k = 0
    · have hst : s2 = st0 := by have := HST.out; rw [if_pos hk0] at this; exact this
      have HST1 := Lib.hid hst
      clear hst
      subst hk0
      simp only [show ((0 : Nat) : Int) = 0 from rfl]
      go_wp2_with fail
      go_meet
      refine ⟨rfl, ?_, ?_, ?_⟩
      · rw [← HST1.out]; exact HX2.out.set 5 (.int .i64 (s2 : Int))
      · rw [World.cell?_setCell_other _ _ _ _ (by intro e; injection e with e; exact HNE.out e)]; exact P2.out
      · exact HB2.out.setCell (p := ⟨gx, 5, none⟩) HGX.out _
    · have hst : s = st0 := by have := HST.out; rw [if_neg hk0] at this; exact this
      have HST1 := Lib.hid hst
      have hk0' : ¬ (k : Int) = 0 := by omega
      have hk0'' : ((k : Int) == 0) = false := beq_eq_false_iff_ne.2 hk0'
      clear hst
      go_wp2_with fail
      go_meet
      refine ⟨rfl, ?_, P2.out, HB2.out⟩
      rw [← HST1.out]; exact HX2.out
  case rest =>
    obtain ⟨rfl, HC⟩ := hcut
    obtain ⟨V, hV⟩ : ∃ z, z = wc := ⟨_, rfl⟩
    subst hV
    have HX : Hid (Box V gx [.int .i64 0, .int .i64 0, .string ⟨#[]⟩, .string a, .string ⟨#[]⟩, .int .i64 (st0 : Int), .int .i64 0, .int .i64 0, .int .i64 0, .slice none 0 0]) := HC.out.1
    have HP0 : Hid (V.cell? ⟨gp, 0, none⟩ = some (.string t)) := HC.out.2.1
    have HB : Hid (Below W.heap.size W V) := HC.out.2.2
    have HWV : Hid (Below w.heap.size w V) := below_step HW.out HB.out
    clear HC x5 f5 HX2 P2 HB2
    have hlt : s2 < n := by rw [← HE.out.len]; exact getD_lt (by rw [hcv]; decide)
    obtain ⟨aa, oo, hAe, hcell⟩ := (HE.out.rd.below HWV.out).addr (by rw [HE.out.len]; omega)
    have cs := hcell s2 (by rw [HE.out.len]; exact hlt)
    rw [hcv] at cs
    subst hAe
    have dlt : (s2 : Int) < (n : Int) := by omega
    clear hcell
    have hre : inNodeG child deep b fl s 0 = .error 3 := by
      unfold inNodeG
      rw [HP.out]
      dsimp only
      rw [if_pos rfl, H2.out.1]
      have hcont : inCont child deep b fl s2 (0 + 1) = .error 3 := by
        unfold inCont
        rw [if_neg (by rw [hcv]; decide), if_pos hcv, if_pos hdp]
      rw [hcont]; rfl
    have HRE := Lib.hid hre
    clear hre
    have d2 : decide ((64 : Int) ≤ d) = true := decide_eq_true hdd
    go_wp2_with fail
    go_ret3
    rw [HRE.out]
    exact ⟨rfl, HB.out, by decide⟩
set_option maxHeartbeats 8000000 in
theorem rnodeC91_at {f : Nat} (E : REnv w A n c b) (hw : Below w.heap.size w W) (hs : s ≤ n) (hp : Pr.takeP (b.drop s) = (tg, an, k, true)) (h2 : inBlk b (s + k) = s2) (hcv : b.getD s2 0 = 91) (hd0 : 0 ≤ d) (hdd : d < 64) (hf : (64 - (d + 1)).toNat = f) (C : RNodeC w A n c b f) :
    Calls Try.prog 75 #[.slice A n c, .int .i64 (s : Int), .bool fl, .int .i64 d] W (RNodeP W (inNodeG (inNode f b true) false b fl s 0)) := by
  have HC := Lib.hid C
  clear C
  have hn := E.small
  have hnc := E.le
  have hcm := E.cap
  have HE := Lib.hid E
  have HW := Lib.hid hw
  have hkl : s + k ≤ n := by
    have := takeP_len (b.drop s)
    rw [hp, List.length_drop, E.len] at this
    simp only at this
    omega
  have hk1 : (Pr.takeP (b.drop s)).2.2.1 = k := by rw [hp]
  have hk2 : (Pr.takeP (b.drop s)).2.2.2 = true := by rw [hp]
  have hk3 : (Pr.takeP (b.drop s)).1 = tg := by rw [hp]
  have hk4 : (Pr.takeP (b.drop s)).2.1 = an := by rw [hp]
  obtain ⟨As, hsls, hAs, hrds⟩ := slice_l _ n c s b E.len E.le E.nil hs
  have HRS := Lib.hid (And.intro hrds hAs)
  obtain ⟨s1, hs1⟩ : ∃ s1, s + k = s1 := ⟨_, rfl⟩
  have hs1z : (s : Int) + (k : Int) = (s1 : Int) := by omega
  have hs1n : s1 ≤ n := by omega
  have h2' := h2
  rw [hs1] at h2'
  obtain ⟨A2, hsl2, -, hrd2⟩ := slice_l _ n c s1 b E.len E.le E.nil hs1n
  obtain ⟨kk, hkk⟩ : ∃ z, blkF (b.drop s1) = z := ⟨_, rfl⟩
  have hsum : (s1 : Int) + (kk : Int) = (s2 : Int) := by rw [← h2', ← hkk]; unfold inBlk; omega
  have hs2n : s2 ≤ n := by rw [← h2', ← E.len]; exact blk_le (by rw [E.len]; exact hs1n)
  have hs12 : s1 ≤ s2 := by rw [← h2']; exact blk_ge b _
  obtain ⟨A3, hsl3, hA3, hrd3⟩ := slice_l _ n c s2 b E.len E.le E.nil hs2n
  obtain ⟨st0, hst0⟩ : ∃ z, (if k = 0 then s2 else s) = z := ⟨_, rfl⟩
  have HST := Lib.hid hst0
  have HRD2 := Lib.hid hrd2
  have HRD3 := Lib.hid (And.intro hrd3 hA3)
  have HKK := Lib.hid hkk
  have HP := Lib.hid hp
  have H2 := Lib.hid (And.intro h2 hs1)
  have HK := Lib.hid (And.intro hk1 (And.intro hk2 (And.intro hk3 hk4)))
  clear E hw hp h2 h2' hs1 hkk hrds hAs hrd2 hrd3 hA3 hst0 hk1 hk2 hk3 hk4
  go_enter Try.func75, Try.ntmps75
  go_wp2_with fail
  refine (Pr.refTake_any As (n - s) (c - s) (b.drop s) W (by rw [List.length_drop, HE.out.len]) (by omega) (by omega) HRS.out.2 (HE.out.byte.drop s) (HRS.out.1 _ (HE.out.rd.below HW.out))).mono ?_
  rintro e W0 ⟨t, a, ht, ha, rfl, hb0⟩
  rw [HK.out.2.2.1] at ht
  rw [HK.out.2.2.2] at ha
  rw [HK.out.1, HK.out.2.1]
  have HTA := Lib.hid (And.intro ht ha)
  have HB0 := Lib.hid hb0
  clear ht ha hb0 hsls HRS
  go_upto_region 2 with fail
  obtain ⟨W1, hW1⟩ : ∃ W1, W0.alloc (.cells #[.string t, .string a] 113) = W1 := ⟨_, rfl⟩
  obtain ⟨gp, hgp⟩ : ∃ g, W0.heap.size = g := ⟨_, rfl⟩
  have hb1 : Below W0.heap.size W0 W1 := by rw [← hW1]; exact (Below.refl _ _).alloc (Nat.le_refl _) _
  have p0 : W1.cell? ⟨gp, 0, none⟩ = some (.string t) := by rw [← hW1, ← hgp, World.cell?_alloc_mark]; rfl
  have p1 : W1.cell? ⟨gp, 1, none⟩ = some (.string a) := by rw [← hW1, ← hgp, World.cell?_alloc_mark]; rfl
  have hs1w : W1.heap.size = gp + 1 := by rw [← hW1, ← hgp]; simp
  rw [hW1, hgp]
  have HB1 : Hid (Below W.heap.size W W1) := below_step HB0.out hb1
  have HGP : Hid (W.heap.size ≤ gp) := by show W.heap.size ≤ gp; rw [← hgp]; exact HB0.out.size
  clear hW1 hgp hb1 HB0
  have P1 := Lib.hid p0
  go_wp2_with fail
  refine (refBlanks_any A2 (n - s1) (c - s1) (b.drop s1) W1 (by rw [List.length_drop, HE.out.len]) (by omega) (by omega) (HRD2.out _ (HE.out.rd.below (below_step HW.out HB1.out)))).mono ?_
  rintro e w' ⟨rfl, rfl⟩
  rw [HKK.out]
  clear hsl2 HRD2
  go_upto_region 7 with fail
  obtain ⟨W2, hW2⟩ : ∃ W2, W1.alloc (.cells #[.int .i64 0, .int .i64 0, .string ⟨#[]⟩, .string a, .string ⟨#[]⟩, .int .i64 (s : Int), .int .i64 0, .int .i64 0, .int .i64 0, .slice none 0 0] 41) = W2 := ⟨_, rfl⟩
  obtain ⟨gx, hgx⟩ : ∃ g, gp + 1 = g := ⟨_, rfl⟩
  have bx : Box W2 gx [.int .i64 0, .int .i64 0, .string ⟨#[]⟩, .string a, .string ⟨#[]⟩, .int .i64 (s : Int), .int .i64 0, .int .i64 0, .int .i64 0, .slice none 0 0] := by rw [← hW2, ← hgx, ← hs1w]; exact Box.new W1 _
  have hb2 : Below W1.heap.size W1 W2 := by rw [← hW2]; exact (Below.refl _ _).alloc (Nat.le_refl _) _
  rw [hgx, hW2]
  have p2 : W2.cell? ⟨gp, 0, none⟩ = some (.string t) := cell_keep hb2 p0
  have hne : gx ≠ gp := by omega
  have HNE := Lib.hid hne
  have HB2 : Hid (Below W.heap.size W W2) := below_step HB1.out hb2
  have HX2 := Lib.hid bx
  have HGX : Hid (W.heap.size ≤ gx) := by show W.heap.size ≤ gx; have := HGP.out; omega
  clear hW2 hgx hb2 p0 p1 hs1w bx hne HB1 HGP P1
  have P2 := Lib.hid p2
  clear p2
  have x5 := HX2.out.cell 5 _ rfl
  have f5 := HX2.out.frozen 5
  go_upto_if 48 with fail
  go_cut [14] from 49 to 50 (fun v U => v = .int .i64 (s2 : Int) ∧ Hid (Box U gx [.int .i64 0, .int .i64 0, .string ⟨#[]⟩, .string a, .string ⟨#[]⟩, .int .i64 (st0 : Int), .int .i64 0, .int .i64 0, .int .i64 0, .slice none 0 0] ∧ U.cell? ⟨gp, 0, none⟩ = some (.string t) ∧ Below W.heap.size W U))
  case first =>
    by_cases hk0 : k = 0
    · have hst : s2 = st0 := by have := HST.out; rw [if_pos hk0] at this; exact this
      have HST1 := Lib.hid hst
      clear hst
      subst hk0
      simp only [show ((0 : Nat) : Int) = 0 from rfl]
      go_wp2_with fail
      go_meet
      refine ⟨rfl, ?_, ?_, ?_⟩
      · rw [← HST1.out]; exact HX2.out.set 5 (.int .i64 (s2 : Int))
      · rw [World.cell?_setCell_other _ _ _ _ (by intro e; injection e with e; exact HNE.out e)]; exact P2.out
      · exact HB2.out.setCell (p := ⟨gx, 5, none⟩) HGX.out _
    · have hst : s = st0 := by have := HST.out; rw [if_neg hk0] at this; exact this
      have HST1 := Lib.hid hst
      have hk0' : ¬ (k : Int) = 0 := by omega
      have hk0'' : ((k : Int) == 0) = false := beq_eq_false_iff_ne.2 hk0'
      clear hst
      go_wp2_with fail
      go_meet
      refine ⟨rfl, ?_, P2.out, HB2.out⟩
      rw [← HST1.out]; exact HX2.out
  case rest =>
    obtain ⟨rfl, HC⟩ := hcut
    obtain ⟨V, hV⟩ : ∃ z, z = wc := ⟨_, rfl⟩
    subst hV
    have HX : Hid (Box V gx [.int .i64 0, .int .i64 0, .string ⟨#[]⟩, .string a, .string ⟨#[]⟩, .int .i64 (st0 : Int), .int .i64 0, .int .i64 0, .int .i64 0, .slice none 0 0]) := HC.out.1
    have HP0 : Hid (V.cell? ⟨gp, 0, none⟩ = some (.string t)) := HC.out.2.1
    have HB : Hid (Below W.heap.size W V) := HC.out.2.2
    have HWV : Hid (Below w.heap.size w V) := below_step HW.out HB.out
    clear HC x5 f5 HX2 P2 HB2
    have hlt : s2 < n := by rw [← HE.out.len]; exact getD_lt (by rw [hcv]; decide)
    obtain ⟨aa, oo, hAe, hcell⟩ := (HE.out.rd.below HWV.out).addr (by rw [HE.out.len]; omega)
    have cs := hcell s2 (by rw [HE.out.len]; exact hlt)
    rw [hcv] at cs
    subst hAe
    have dlt : (s2 : Int) < (n : Int) := by omega
    clear hcell
    have d2 : decide ((64 : Int) ≤ d) = false := decide_eq_false (by omega)
    have d3 : ¬ (64 : Int) ≤ d := by omega
    have HX4 : Hid (Box ((V.setCell ⟨gx, 0, none⟩ (.int .i64 2)).setCell ⟨gx, 1, none⟩ (.int .i64 7)) gx [.int .i64 2, .int .i64 7, .string ⟨#[]⟩, .string a, .string ⟨#[]⟩, .int .i64 (st0 : Int), .int .i64 0, .int .i64 0, .int .i64 0, .slice none 0 0]) := ((HX.out.set 0 (.int .i64 2)).set 1 (.int .i64 7))
    have HB4 : Hid (Below W.heap.size W ((V.setCell ⟨gx, 0, none⟩ (.int .i64 2)).setCell ⟨gx, 1, none⟩ (.int .i64 7))) := ((HB.out.setCell (p := ⟨gx, 0, none⟩) HGX.out (.int .i64 2)).setCell (p := ⟨gx, 1, none⟩) HGX.out (.int .i64 7))
    have HP4 : Hid (World.cell? ((V.setCell ⟨gx, 0, none⟩ (.int .i64 2)).setCell ⟨gx, 1, none⟩ (.int .i64 7)) ⟨gp, 0, none⟩ = some (.string t)) := by
      show World.cell? _ _ = _
      rw [World.cell?_setCell_other _ _ _ _ (by intro e; injection e with e; exact HNE.out e), World.cell?_setCell_other _ _ _ _ (by intro e; injection e with e; exact HNE.out e)]
      exact HP0.out
    have y0 := HX.out.cell 0 _ rfl
    have fy0 := HX.out.frozen 0
    have y1 := HX.out.cell 1 _ rfl
    have fy1 := HX.out.frozen 1
    go_upto_region 33 with fail
    generalize ((V.setCell ⟨gx, 0, none⟩ (.int .i64 2)).setCell ⟨gx, 1, none⟩ (.int .i64 7)) = V4 at *
    clear HX HB HP0 cs
    clear y0 fy0 y1 fy1
    obtain ⟨r, hrr⟩ : ∃ r, strOfNums (inTag 2 7 (byt t) (byt ⟨#[]⟩)) = r := ⟨_, rfl⟩
    have HRR := Lib.hid hrr
    have x0 := HX4.out.cell 0 _ rfl
    have x1 := HX4.out.cell 1 _ rfl
    have p5 := HP4.out
    clear hrr
    go_wp2_with fail
    refine (rtag_at (w := V4) (W := V4) (Below.refl _ _) 2 7 t ⟨#[]⟩ (by decide) r HRR.out).mono ?_
    rintro e V6 ⟨rfl, hb6⟩
    have HX6 := Lib.hid (HX4.out.below hb6)
    have x2 := HX6.out.cell 2 _ rfl
    have f2 := HX6.out.frozen 2
    have HX7 := Lib.hid (HX6.out.set 2 (.string r))
    have HB7 : Hid (Below W.heap.size W (V6.setCell ⟨gx, 2, none⟩ (.string r))) := (below_step HB4.out hb6).setCell (p := ⟨gx, 2, none⟩) HGX.out _
    clear x0 x1 p5 hb6 HX4 HB4 HP4
    go_upto_region 34 with fail
    generalize V6.setCell ⟨gx, 2, none⟩ (.string r) = V7 at *
    clear x2 f2 HX6
    have x5 := HX7.out.cell 5 _ rfl
    have x7 := HX7.out.cell 7 _ rfl
    have f7 := HX7.out.frozen 7
    have x8 := HX7.out.cell 8 _ rfl
    have f8 := HX7.out.frozen 8
    have HX8 : Hid (Box ((V7.setCell ⟨gx, 7, none⟩ (.int .i64 (st0 : Int))).setCell ⟨gx, 8, none⟩ (.int .i64 (st0 : Int))) gx [.int .i64 2, .int .i64 7, .string r, .string a, .string ⟨#[]⟩, .int .i64 (st0 : Int), .int .i64 0, .int .i64 (st0 : Int), .int .i64 (st0 : Int), .slice none 0 0]) := (HX7.out.set 7 _).set 8 _
    have HB8 : Hid (Below W.heap.size W ((V7.setCell ⟨gx, 7, none⟩ (.int .i64 (st0 : Int))).setCell ⟨gx, 8, none⟩ (.int .i64 (st0 : Int)))) := (HB7.out.setCell (p := ⟨gx, 7, none⟩) HGX.out _).setCell (p := ⟨gx, 8, none⟩) HGX.out _
    go_upto_region 35 with fail
    generalize (V7.setCell ⟨gx, 7, none⟩ (.int .i64 (st0 : Int))).setCell ⟨gx, 8, none⟩ (.int .i64 (st0 : Int)) = V8 at *
    clear x5 x7 f7 x8 f8 HX7 HB7
    have x0 := HX8.out.cell 0 _ rfl
    have x1 := HX8.out.cell 1 _ rfl
    have x2 := HX8.out.cell 2 _ rfl
    have x3 := HX8.out.cell 3 _ rfl
    have x4 := HX8.out.cell 4 _ rfl
    have x5 := HX8.out.cell 5 _ rfl
    have x6 := HX8.out.cell 6 _ rfl
    have x7 := HX8.out.cell 7 _ rfl
    have x8 := HX8.out.cell 8 _ rfl
    have x9 := HX8.out.cell 9 _ rfl
    have er : strOfNums (inTag 2 7 tg []) = r := by have := HRR.out; rw [HTA.out.1] at this; exact this
    have ea : strOfNums an = a := by rw [← HTA.out.2, strOfNums_byt]
    have hcx : (ndC ((⟨2, 7, inTag 2 7 tg [], an, [], st0, 0, st0, st0, []⟩ : Nd), .slice none 0 0)).toArray = #[.int .i64 2, .int .i64 7, .string r, .string a, .string ⟨#[]⟩, .int .i64 (st0 : Int), .int .i64 0, .int .i64 (st0 : Int), .int .i64 (st0 : Int), .slice none 0 0] := by
      simp only [ndC, er, ea]; rfl
    have C := seq_at HE.out HC.out V8 (below_step HW.out HB8.out) s2 (by omega) d hd0 hdd hf ⟨2, 7, inTag 2 7 tg [], an, [], st0, 0, st0, st0, []⟩ rfl rfl
    rw [hcx] at C
    obtain ⟨res, hres⟩ : ∃ res, inColl (inItem (inNode f b true)) b 93 s2 1 = res := ⟨_, rfl⟩
    rw [hres] at C
    have hcont : inNodeG (inNode f b true) false b fl s 0 = rcN 2 tg an st0 res := by
      unfold inNodeG
      rw [HP.out]
      dsimp only
      rw [if_pos rfl, H2.out.1]
      have hcont : inCont (inNode f b true) false b fl s2 (0 + 1) = rcK 2 res := by
        unfold inCont
        rw [if_neg (by rw [hcv]; decide), if_pos hcv, if_neg (by decide)]
        rw [show inColl (inItem (inNode f b true)) b 93 s2 (0 + 1) = res from hres]
        cases res with
        | error q => rfl
        | ok z =>
          obtain ⟨ks, l, m⟩ := z
          rfl
      rw [hcont]
      cases res with
      | error q => rfl
      | ok z =>
        obtain ⟨ks, l, m⟩ := z
        simp only [inDone, rcK, rcN]
        rw [if_neg (by rintro ⟨h, _⟩; cases h), if_neg (by decide)]
        have e := HST.out
        rw [e]
        simp [inFin, Nd.nil]
    have HCALL := Lib.hid C
    have HCT := Lib.hid hcont
    clear C hcont hres er ea hcx
    go_wp2_with fail
    refine HCALL.out.mono ?_
    clear HCALL x0 x1 x2 x3 x4 x5 x6 x7 x8 x9
    intro e V9 h9
    cases res with
    | error q =>
      obtain ⟨rfl, hb9, hq⟩ := h9
      have HE9 := Lib.hid (And.intro hb9 hq)
      have hre : inNodeG (inNode f b true) false b fl s 0 = .error q := HCT.out
      have HRE := Lib.hid hre
      clear hb9 hq hre
      go_wp2_with fail
      go_ret3
      rw [HRE.out]
      exact ⟨rfl, below_step HB8.out HE9.out.1, HE9.out.2⟩
    | ok z =>
      obtain ⟨ks, l, m⟩ := z
      obtain ⟨v9, P9, rfl, hN9, hL9, hb9⟩ := h9
      have HN9 := Lib.hid (hN9.low HB8.out.size)
      obtain ⟨A9, c9, rfl, _⟩ := own_form hN9.row
      have HL9 := Lib.hid hL9
      have HB9 := Lib.hid (below_step HB8.out hb9)
      have hre : inNodeG (inNode f b true) false b fl s 0 = .ok (⟨2, 7, inTag 2 7 tg [], an, [], st0, m, st0, st0, ks⟩ :: l, m) := HCT.out
      have HRE := Lib.hid hre
      clear hN9 hL9 hb9 hre
      go_wp2_with fail
      go_ret3
      rw [HRE.out]
      exact ⟨_, P9, rfl, HN9.out, HL9.out, HB9.out⟩
end
end Go.Proofs.Ytcddlconcngjlaa
