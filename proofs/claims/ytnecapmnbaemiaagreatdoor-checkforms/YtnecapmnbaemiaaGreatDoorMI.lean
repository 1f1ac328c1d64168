/- A list of nodes of our own in memory, without a reader: a Kid more, a node more, another list behind it. · What the document's reader of a line answers, as the plain functions have it. No program. · The document's Move: a list of nodes in new memory, its Kids by so many more. · The document's blanks, and its key of a flow mapping. -/
import Derived.Test.YtnecapmnbaemiaaGreatDoorMG
import Derived.Test.YtnecapmnbaemiaaGreatDoorMA
import Derived.Test.YtnecapmnbaemiaaGreatDoorMC
import Derived.Test.YtnecapmnbaemiaaGreatDoorMF
import Derived.Test.YtnecapmnbaemiaaGreatDoorMB
import Derived.StillTailTactics
import Derived.BigQuiet
set_option linter.unusedSimpArgs false
set_option linter.unusedVariables false
namespace Go.Proofs.YtnecapmnbaemiaaGreatDoor
open Go.RowKit
set_option linter.unusedVariables false
set_option maxRecDepth 100000
/-- A node without Kids is a list. -/
theorem Nds.one {B : Nat} (W : World) (hB : B ≤ W.heap.size) (x : Nd) (hx : x.kids = []) : Nds B (W.alloc (.cells (ndC (x, .slice none 0 0)).toArray 47)) (.slice (some ⟨W.heap.size, 0, none⟩) 1 1) [(x, .slice none 0 0)] := by
  refine ⟨⟨?_, .inr ⟨W.heap.size, 1, _, rfl, hB, heap_alloc_new W _, Nat.le_refl _, by unfold maxLen; omega, ?_, ?_⟩⟩, ?_, ?_, ?_⟩
  · simp [ndsC, ndC]
  · simp [ndsC, ndC]
  · simp [ndsC, ndC]
  · intro i p hp
    match i, hp with
    | 0, hp =>
      simp at hp; subst hp
      rw [hx]; exact own_nil _ B 1 _
    | i + 1, hp => simp at hp
  · intro i j p q k hp hq hne hk
    match i, hp with
    | 0, hp => simp at hp; subst hp; cases hk
    | i + 1, hp => simp at hp
  · intro i p k hp hk
    match i, hp with
    | 0, hp => simp at hp; subst hp; cases hk
    | i + 1, hp => simp at hp
section
variable {B : Nat} {W : World} {P : List NK} {g cap : Nat}
/-- Another list behind it, whose blocks are further on. -/
theorem Nds.app {W : World} {v : Value} {P Q : List NK} {B2 m c2 : Nat} {A2 : Option Addr} (h : Nds B W v P) (hB : B ≤ W.heap.size) (h2 : Nds B2 W (.slice A2 m c2) Q) (hm : Q.length = m) (hBB : B ≤ B2) (hlt : ∀ k, v.ownBlock = some k → k < B2) (hlk : ∀ (i : Nat) (p : NK) (k : Nat), P[i]? = some p → p.2.ownBlock = some k → k < B2) (hn : P.length + Q.length ≤ 400000) :
    ∃ v' w', (Builtin.append_ #[25, 25] 25 #[v, .slice A2 m c2]).run Tryz.prog W = .ok v' w' ∧ (∃ A' cap', v' = .slice A' (P.length + m) cap') ∧ Below B W w' ∧ Nds B w' v' (P ++ Q) := by
  have hrow2 := h2.row
  rw [hm] at hrow2
  have hrd : RdC W A2 (ndsC Q) := RdC.own hrow2
  have hone : ∀ u ∈ ndsC Q, u.oneCell' = true := by
    intro u hu
    obtain ⟨p, hp, hu⟩ := List.mem_flatMap.1 hu
    obtain ⟨i, hi⟩ := List.mem_iff_getElem?.1 hp
    obtain ⟨A', cap', e, _⟩ := own_form (h2.kid i p hi)
    simp only [ndC, List.mem_cons, List.not_mem_nil, or_false] at hu
    rcases hu with rfl | rfl | rfl | rfl | rfl | rfl | rfl | rfl | rfl | rfl
    all_goals first | rfl | (rw [e]; rfl)
  obtain ⟨v', w', hrun, hown, hg, hv⟩ := run_append_rows Tryz.underlying25 node_info rfl (by omega) (by omega) W B v P.length (ndsC P) h.row hB A2 m c2 (ndsC Q) (by rw [ndsC_len, hm]) hrd hone (by omega)
  have look : ∀ (i : Nat) (p : NK), (P ++ Q)[i]? = some p → (i < P.length ∧ P[i]? = some p) ∨ (P.length ≤ i ∧ Q[i - P.length]? = some p) := by
    intro i p hp
    rcases Nat.lt_or_ge i P.length with hi | hi
    · rw [List.getElem?_append_left hi] at hp; exact .inl ⟨hi, hp⟩
    · rw [List.getElem?_append_right hi] at hp; exact .inr ⟨hi, hp⟩
  refine ⟨v', w', hrun, ?_, (Below.refl _ _ |>.mono hB).grown hg hB (fun k hk => (h.blockB hk).1), ⟨?_, ?_, ?_, ?_⟩⟩
  · obtain ⟨A', cap', e, _⟩ := own_form hown
    exact ⟨A', cap', e⟩
  · rw [List.length_append, ndsC_app, hm]; exact hown
  · intro i p hp
    rcases look i p hp with ⟨hi, hp⟩ | ⟨hi, hp⟩
    · exact own_kept (h.kid i p hp) hg (fun k hk hx => h.off i p k hp hx hk)
    · have o := own_kept (h2.kid _ p hp) hg (fun k hk hx => by have := (h2.kidB hp hx).1; have := hlt k hk; omega)
      exact ⟨o.1, by
        rcases o.2 with h0 | ⟨g, cap, cur, hv, hb, hr⟩
        · exact .inl h0
        · exact .inr ⟨g, cap, cur, hv, by omega, hr⟩⟩
  · intro i j p q k hp hq hne hk
    rcases look i p hp with ⟨hi, hp⟩ | ⟨hi, hp⟩
    · rcases look j q hq with ⟨hj, hq⟩ | ⟨hj, hq⟩
      · exact h.apart i j p q k hp hq hne hk
      · intro e; have := (h2.kidB hq e).1; have := hlk i p k hp hk; omega
    · rcases look j q hq with ⟨hj, hq⟩ | ⟨hj, hq⟩
      · intro e; have := (h2.kidB hp hk).1; have := hlk j q k hq e; omega
      · exact h2.apart _ _ p q k hp hq (by omega) hk
  · intro i p k hp hk
    rcases look i p hp with ⟨hi, hp⟩ | ⟨hi, hp⟩
    · rcases hv with hv | hv
      · rw [hv]; exact h.off i p k hp hk
      · rw [hv]; intro e; injection e with e
        have := (h.kidB hp hk).2
        omega
    · rcases hv with hv | hv
      · rw [hv]; intro e; have := hlt k e; have := (h2.kidB hp hk).1; omega
      · rw [hv]; intro e; injection e with e
        have := (h2.kidB hp hk).2
        omega
end
set_option linter.unusedSimpArgs false
/-- The copy, of which the first nodes have Kids of their own. -/
structure Mvd (B : Nat) (V : World) (g cap m : Nat) (Q P : List NK) : Prop where
  row : V.ownsRow B 47 10 (.slice (some ⟨g, 0, none⟩) m cap) m (ndsC (Q ++ P))
  kid : ∀ (i : Nat) (p : NK), Q[i]? = some p → V.ownsRow B 3 1 p.2 p.1.kids.length (kidC p.1.kids)
  apart : ∀ (i j : Nat) (p q : NK) (k : Nat), Q[i]? = some p → Q[j]? = some q → i ≠ j → p.2.ownBlock = some k → q.2.ownBlock ≠ some k
  off : ∀ (i : Nat) (p : NK), Q[i]? = some p → p.2.ownBlock ≠ some g
theorem Mvd.below {B : Nat} {V V' : World} {g cap m : Nat} {Q P : List NK} (h : Mvd B V g cap m Q P) (hb : Below V.heap.size V V') : Mvd B V' g cap m Q P :=
  ⟨own_below h.row hb, fun i p hp => own_below (h.kid i p hp) hb, h.apart, h.off⟩
theorem Mvd.step {B : Nat} {V : World} {g cap m : Nat} {Q P : List NK} {p : NK} (h : Mvd B V g cap m Q (p :: P)) (x : Nd) (kv : Value) (hc : ndC (x, kv) = (ndC p).set 9 kv) (ho : V.ownsRow B 3 1 kv x.kids.length (kidC x.kids)) (hne : kv.ownBlock ≠ some g) (hfr : ∀ (i : Nat) (q : NK) (k : Nat), Q[i]? = some q → q.2.ownBlock = some k → kv.ownBlock ≠ some k) :
    Mvd B (V.setCell ⟨g, Q.length * 10 + 9, none⟩ kv) g cap m (Q ++ [(x, kv)]) P := by
  have hgs := grown_store V g (Q.length * 10 + 9) kv
  have hp : (Q ++ p :: P)[Q.length]? = some p := by rw [List.getElem?_append_right (Nat.le_refl _), Nat.sub_self]; rfl
  refine ⟨?_, ?_, ?_, ?_⟩
  · have e : (Q ++ [(x, kv)]) ++ P = (Q ++ p :: P).set Q.length (x, kv) := by
      rw [List.set_append_right _ _ (Nat.le_refl _), Nat.sub_self]; simp
    rw [e, ← ndsC_set (Q ++ p :: P) Q.length 9 p (x, kv) kv hp (by omega) hc]
    exact (h.row.stored _ _).1
  · intro i q hq
    rcases snoc_look hq with ⟨rfl, rfl⟩ | ⟨hi, hq⟩
    · exact own_kept ho hgs (fun k hk hx => by injection hk with hk; subst hk; exact hne hx)
    · exact own_kept (h.kid i q hq) hgs (fun k hk hx => by injection hk with hk; subst hk; exact h.off i q hq hx)
  · intro i j q r k hq hr hij hk
    rcases snoc_look hq with ⟨rfl, rfl⟩ | ⟨hi, hq⟩
    · rcases snoc_look hr with ⟨rfl, rfl⟩ | ⟨hj, hr⟩
      · exact absurd rfl hij
      · exact fun e => hfr j r k hr e hk
    · rcases snoc_look hr with ⟨rfl, rfl⟩ | ⟨hj, hr⟩
      · exact hfr i q k hq hk
      · exact h.apart i j q r k hq hr hij hk
  · intro i q hq
    rcases snoc_look hq with ⟨rfl, rfl⟩ | ⟨hi, hq⟩
    · exact hne
    · exact h.off i q hq
theorem Mvd.nds {B : Nat} {V : World} {g cap m : Nat} {Q : List NK} (h : Mvd B V g cap m Q []) (hm : Q.length = m) : Nds B V (.slice (some ⟨g, 0, none⟩) m cap) Q := by
  subst hm
  refine ⟨by have := h.row; rwa [List.append_nil] at this, h.kid, h.apart, fun i p k hp hk e => ?_⟩
  simp only [Value.ownBlock, Option.some.injEq] at e
  exact h.off i p hp (by rw [hk, e])
/-- Ten cells of a node, in a block of our own. -/
def Box (W : World) (g : Nat) (C : List Value) : Prop := W.heap[g]? = some (.cells C.toArray 47)
theorem Box.lt {W : World} {g : Nat} {C : List Value} (h : Box W g C) : g < W.heap.size := (Array.getElem?_eq_some_iff.1 h).1
theorem Box.cell {W : World} {g : Nat} {C : List Value} (h : Box W g C) (j : Nat) (v : Value) (hj : C[j]? = some v) : W.cell? ⟨g, j, none⟩ = some v := by
  unfold Box at h
  simp [World.cell?, h, hj]
theorem Box.frozen {W : World} {g : Nat} {C : List Value} (h : Box W g C) (j : Nat) : W.frozen? ⟨g, j, none⟩ = false := by
  unfold Box at h
  simp [World.frozen?, h]
theorem Box.below {W W' : World} {g : Nat} {C : List Value} (h : Box W g C) (hb : Below W.heap.size W W') : Box W' g C := (hb.block g h.lt).trans h
theorem Box.set {W : World} {g : Nat} {C : List Value} (h : Box W g C) (j : Nat) (v : Value) : Box (W.setCell ⟨g, j, none⟩ v) g (C.set j v) := by
  unfold Box at h ⊢
  simp [World.setCell, Array.getElem?_modify, h]
theorem Box.other {W : World} {g g' : Nat} {C : List Value} (h : Box W g C) (hne : g ≠ g') (j : Nat) (v : Value) : Box (W.setCell ⟨g', j, none⟩ v) g C := (Below.heap_setCell _ _ _ _ hne).trans h
theorem Box.new (W : World) (C : List Value) : Box (W.alloc (.cells C.toArray 47)) W.heap.size C := heap_alloc_new W _
theorem loadI_exec (o : Oper) (x : Operand) (ho : o.op = .load 3 x) (a : Act) (V : World) (p : Addr) (z : Int) (hx : a.eval x = .pointer (some p)) (hc : V.cell? p = some (.int .i64 z)) : (execOp a.eval o).run Tryz.prog V = .ok (.value (.int .i64 z)) V := by
  unfold execOp
  simp only [ho, hx]
  simp [go_sem, hc]
/-- The bytes that came in to the document's reader. -/
structure REnv (w : World) (A : Option Addr) (n c : Nat) (b : List Int) : Prop where
  len : b.length = n
  le : n ≤ c
  cap : c ≤ 9223372036854775807
  nil : A = none → c = 0
  byte : Byte b
  rd : RdB w A b
  small : n ≤ 100000
section
variable {w W : World} {A : Option Addr} {n c s : Nat} {b : List Int}
end
end Go.Proofs.YtnecapmnbaemiaaGreatDoor
