/- Chapter 13: a list that is a tree, as a plain thing; what the document's reader of a line makes is one. No program. · Chapter 13: of a tree where each node's own tree ends: a function. No program. · Chapter 13: tree.Valid of a tree. · Chapter 13: tree.Valid of a tree: the whole list. · Chapter 13: nodes of any kind in memory; whether there is a node, and where its tree ends, of any list. · Nodes of any kind in memory of our own; a copy of a list under way. No program. · Rows of whole numbers: are they alike? (scholiumkeep.Same) · Chapter 13: tree.Depth of any list. · slices.Clone of nodes and of whole numbers. · Chapter 13: the tree below a node as a list of its own: Sub, and the copy that it makes. · Chapter 13: tree.Sub of any list. · Chapter 13: tree.Valid of any list. · Chapter 13: tree.Valid of any list. · Chapter 13: of a tree, where a node's own tree ends, as its Kids lead there. No program. · Chapter 13: lists of nodes of any kind that are trees: Valid says so; the tree below a node is one. No program. · Chapter 13: of a tree, the way down to a node: whose Kid it is. No program. · Chapter 13: what is below a node below a node is the same, told of the whole or of the part. No program. · Chapter 13: trees in memory, whoever made them. -/
import Derived.Test.YtnecapmnbaemiaaGreatDoorMH
import Derived.Test.YtnecapmnbaemiaaGreatDoorMI
import Derived.Test.YtnecapmnbaemiaaGreatDoorMA
import Derived.StillTailTactics
import Derived.Deep.CutRange
import Derived.Deep.DeepCutAuto
set_option linter.unusedSimpArgs false
set_option linter.unusedVariables false
namespace Go.Proofs.YtnecapmnbaemiaaGreatDoor
open Go.RowKit
set_option linter.unusedVariables false
set_option maxRecDepth 100000
/-- One behind the other, from s to e. -/
def TRow (T : Nat → Nat → Prop) : Nat → List Nat → Nat → Prop
  | s, [], e => s = e
  | s, k :: ks, e => k = s ∧ ∃ e1, T k e1 ∧ TRow T e1 ks e
theorem TRow.nil {T : Nat → Nat → Prop} {s : Nat} : TRow T s [] s := rfl
theorem TRow.imp {T U : Nat → Nat → Prop} (h : ∀ k e, T k e → U k e) : ∀ {ks : List Nat} {s e : Nat}, TRow T s ks e → TRow U s ks e
  | [], _, _, g => g
  | k :: ks, s, e, ⟨g1, e1, g2, g3⟩ => ⟨g1, e1, h _ _ g2, g3.imp h⟩
theorem TRow.app {T : Nat → Nat → Prop} {l : List Nat} : ∀ {ks : List Nat} {s e f : Nat}, TRow T s ks e → TRow T e l f → TRow T s (ks ++ l) f
  | [], _, _, _, g, g2 => by have : _ = _ := g; subst this; exact g2
  | k :: ks, s, e, f, ⟨g1, e1, g2, g3⟩, g4 => ⟨g1, e1, g2, g3.app g4⟩
/-- A tree, so deep at most, from the node i to e. -/
def Trd (f : Nat → Option Nd) : Nat → Nat → Nat → Prop
  | 0, i, e => ∃ x, f i = some x ∧ x.kids = [] ∧ e = i + 1
  | d + 1, i, e => ∃ x, f i = some x ∧ ((x.kids = [] ∧ e = i + 1) ∨ ((x.kind = 2 ∨ (x.kind = 3 ∧ x.kids.length % 2 = 0)) ∧ TRow (Trd f d) (i + 1) x.kids e))
theorem TRow.ge {T : Nat → Nat → Prop} (hT : ∀ k e, T k e → k < e) : ∀ {ks : List Nat} {s e : Nat}, TRow T s ks e → s ≤ e
  | [], s, e, g => by have : s = e := g; omega
  | k :: ks, s, e, ⟨g1, e1, g2, g3⟩ => by have := hT _ _ g2; have := g3.ge hT; omega
theorem Trd.lt {f : Nat → Option Nd} : ∀ {d i e : Nat}, Trd f d i e → i < e
  | 0, i, e, ⟨x, _, _, h⟩ => by omega
  | d + 1, i, e, ⟨x, _, h⟩ => by
    rcases h with ⟨_, h⟩ | ⟨_, h⟩
    · omega
    · have := h.ge (fun k e g => Trd.lt g); omega
theorem Trd.all {f g : Nat → Option Nd} (hfg : ∀ k y, f k = some y → g k = some y) : ∀ {d i e : Nat}, Trd f d i e → Trd g d i e
  | 0, i, e, ⟨x, h1, h2⟩ => ⟨x, hfg _ _ h1, h2⟩
  | d + 1, i, e, ⟨x, h1, h⟩ => by
    refine ⟨x, hfg _ _ h1, ?_⟩
    rcases h with h | ⟨h2, h3⟩
    · exact .inl h
    · exact .inr ⟨h2, h3.imp fun k e g => Trd.all hfg g⟩
theorem TRow.past {T U : Nat → Nat → Prop} {b : Nat} (hT : ∀ k e, T k e → k < e) (h : ∀ k e, b ≤ k → T k e → U k e) : ∀ {ks : List Nat} {s e : Nat}, b ≤ s → TRow T s ks e → TRow U s ks e
  | [], _, _, _, g => g
  | k :: ks, s, e, hs, ⟨g1, e1, g2, g3⟩ => ⟨g1, e1, h _ _ (by omega) g2, g3.past hT h (by have := hT _ _ g2; omega)⟩
theorem Trd.past {f g : Nat → Option Nd} {b : Nat} (hfg : ∀ k y, b ≤ k → f k = some y → g k = some y) : ∀ {d i e : Nat}, b ≤ i → Trd f d i e → Trd g d i e
  | 0, i, e, hi, ⟨x, h1, h2⟩ => ⟨x, hfg _ _ hi h1, h2⟩
  | d + 1, i, e, hi, ⟨x, h1, h⟩ => by
    refine ⟨x, hfg _ _ hi h1, ?_⟩
    rcases h with h | ⟨h2, h3⟩
    · exact .inl h
    · exact .inr ⟨h2, h3.past (b := b) (fun k e g => Trd.lt g) (fun k e hk q => Trd.past hfg hk q) (by omega)⟩
theorem TRow.one {T U : Nat → Nat → Prop} (h : ∀ k e e', T k e → U k e' → e = e') : ∀ {ks : List Nat} {s e e' : Nat}, TRow T s ks e → TRow U s ks e' → e = e'
  | [], s, e, e', g, g' => by have h1 : s = e := g; have h2 : s = e' := g'; omega
  | k :: ks, s, e, e', ⟨g1, e1, g2, g3⟩, ⟨g1', e1', g2', g3'⟩ => by
    have := h _ _ _ g2 g2'
    subst this
    exact g3.one h g3'
theorem Trd.one {f : Nat → Option Nd} : ∀ {d d' i e e' : Nat}, Trd f d i e → Trd f d' i e' → e = e' := by
  intro d
  induction d with
  | zero =>
    intro d' i e e' h h'
    obtain ⟨x, h1, h2, h3⟩ := h
    cases d' with
    | zero => obtain ⟨_, _, _, g⟩ := h'; omega
    | succ d' =>
      obtain ⟨y, g1, g⟩ := h'
      rw [h1] at g1
      injection g1 with g1
      subst g1
      rcases g with ⟨_, g⟩ | ⟨_, g⟩
      · omega
      · rw [h2] at g
        have : i + 1 = e' := g
        omega
  | succ d ih =>
    intro d' i e e' h h'
    obtain ⟨x, h1, h⟩ := h
    cases d' with
    | zero =>
      obtain ⟨y, g1, g2, g3⟩ := h'
      rw [h1] at g1
      injection g1 with g1
      subst g1
      rcases h with ⟨_, h⟩ | ⟨_, h⟩
      · omega
      · rw [g2] at h
        have : i + 1 = e := h
        omega
    | succ d' =>
      obtain ⟨y, g1, g⟩ := h'
      rw [h1] at g1
      injection g1 with g1
      subst g1
      rcases h with ⟨q1, h⟩ | ⟨_, h⟩
      · rcases g with ⟨_, g⟩ | ⟨_, g⟩
        · omega
        · rw [q1] at g
          have : i + 1 = e' := g
          omega
      · rcases g with ⟨q1, g⟩ | ⟨_, g⟩
        · rw [q1] at h
          have : i + 1 = e := h
          omega
        · exact TRow.one (T := Trd f d) (U := Trd f d') (fun k a b p q => ih p q) h g
/-- Each node of a tree is a tree's first. -/
theorem TRow.each {T : Nat → Nat → Prop} {P : Nat → Prop} (hT : ∀ k e, T k e → ∀ i, k ≤ i → i < e → P i) : ∀ {ks : List Nat} {s e : Nat}, TRow T s ks e → ∀ i, s ≤ i → i < e → P i
  | [], s, e, g, i, h1, h2 => by have : s = e := g; omega
  | k :: ks, s, e, ⟨g1, e1, g2, g3⟩, i, h1, h2 => by
    by_cases h : i < e1
    · exact hT _ _ g2 i (by omega) h
    · exact g3.each hT i (by omega) h2
theorem Trd.each {f : Nat → Option Nd} : ∀ {d i e : Nat}, Trd f d i e → ∀ j, i ≤ j → j < e → ∃ d' e', Trd f d' j e' := by
  intro d
  induction d with
  | zero =>
    intro i e h j h1 h2
    have h' := h
    obtain ⟨x, _, _, h3⟩ := h'
    obtain rfl : j = i := by omega
    exact ⟨0, e, h⟩
  | succ d ih =>
    intro i e h j h1 h2
    by_cases hj : j = i
    · subst hj; exact ⟨d + 1, e, h⟩
    · obtain ⟨x, _, h⟩ := h
      rcases h with ⟨_, h⟩ | ⟨_, h⟩
      · omega
      · exact h.each (P := fun j => ∃ d' e', Trd f d' j e') (fun k e g i g1 g2 => ih g i g1 g2) j (by omega) h2
/-- Where each node's tree ends. -/
structure Ends' (l : List Nd) (E : Nat → Nat) : Prop where
  root : E 0 = l.length
  node : ∀ (i : Nat) (x : Nd), l[i]? = some x → i < E i ∧ E i ≤ l.length ∧ (x.kids = [] ∨ x.kind = 2 ∨ (x.kind = 3 ∧ x.kids.length % 2 = 0)) ∧ TRow (fun k e => i < k ∧ k < l.length ∧ e = E k) (i + 1) x.kids (E i)
theorem lkp_zero {l : List Nd} {i : Nat} : lkp 0 l i = l[i]? := by unfold lkp; rw [if_pos (Nat.zero_le _), Nat.sub_zero]
theorem Trd.le {l : List Nd} : ∀ {d i e : Nat}, Trd (lkp 0 l) d i e → e ≤ l.length := by
  have lt : ∀ {i : Nat} {x : Nd}, lkp 0 l i = some x → i < l.length := fun h => by rw [lkp_zero] at h; exact (List.getElem?_eq_some_iff.1 h).1
  intro d
  induction d with
  | zero => rintro i e ⟨x, h1, _, rfl⟩; exact lt h1
  | succ d ih =>
    rintro i e ⟨x, h1, h⟩
    rcases h with ⟨_, rfl⟩ | ⟨_, h⟩
    · exact lt h1
    · have hi := lt h1
      have : ∀ {ks : List Nat} {s e : Nat}, s ≤ l.length → TRow (Trd (lkp 0 l) d) s ks e → e ≤ l.length := by
        intro ks
        induction ks with
        | nil => intro s e hs g; have : s = e := g; omega
        | cons k ks ihk => rintro s e hs ⟨g1, e1, g2, g3⟩; exact ihk (ih g2) g3
      exact this (by omega) h
set_option linter.unusedSimpArgs false
/-- A list of nodes in memory, looked at. -/
structure Look (W : World) (g n cap : Nat) (l : List Nd) : Prop where
  len : l.length = n
  le : n ≤ cap
  max : cap ≤ 9223372036854775807
  at_ : ∀ (i : Nat) (x : Nd), l[i]? = some x → ∃ A c, x.kids.length ≤ c ∧ c ≤ 9223372036854775807 ∧ RdC W A (kidC x.kids) ∧ ∀ (j : Nat) (u : Value), (ndC (x, .slice A x.kids.length c))[j]? = some u → W.cell? ⟨g, i * 10 + j, none⟩ = some u
theorem Look.of {B : Nat} {W : World} {g n cap : Nat} {P : List NK} (h : Nds B W (.slice (some ⟨g, 0, none⟩) n cap) P) (hn : P.length = n) (h0 : 0 < n) : Look W g n cap (lst P) := by
  subst hn
  obtain ⟨g', cap', e, h1, h2, h3, h4⟩ := h.form h0
  simp only [Value.slice.injEq, Option.some.injEq, Addr.mk.injEq] at e
  obtain ⟨⟨rfl, _, _⟩, _, rfl⟩ := e
  refine ⟨lst_len P, h1, h2, ?_⟩
  intro i x hi
  obtain ⟨p, hp, rfl⟩ : ∃ p, P[i]? = some p ∧ p.1 = x := by
    simp only [lst, List.getElem?_map, Option.map_eq_some_iff] at hi
    exact hi
  have hk := h.kid i p hp
  obtain ⟨A, c, e, hc1, hc2, _⟩ := own_form hk
  refine ⟨A, c, hc1, hc2, ?_, fun j u hu => h.cell hp j u (by rw [← hu, ← e])⟩
  rw [e] at hk
  exact RdC.own hk
theorem Look.below {W W' : World} {g n cap : Nat} {l : List Nd} (h : Look W g n cap l) (hb : Below W.heap.size W W') : Look W' g n cap l :=
  ⟨h.len, h.le, h.max, fun i x hx => by obtain ⟨A, c, q1, q2, q3, q4⟩ := h.at_ i x hx; exact ⟨A, c, q1, q2, q3.below hb, fun j u hu => cell_keep hb (q4 j u hu)⟩⟩
theorem run_make_ints (n : Nat) (h : n ≤ 1000000) (w : World) :
    (Instr.makeSlice 36 (.int .i64 (n : Int)) (.int .i64 (n : Int))).run Tryz.prog w = .ok (.slice (some ⟨w.heap.size, 0, none⟩) n n) (w.alloc (.cells ((List.replicate n (0 : Int)).map (Value.int .i64)).toArray 3)) := by
  obtain ⟨i, hi, hz, h1, h2⟩ := info_parts int_info
  have hb : (i.bytes : Int) * (n : Int) ≤ 281474976710656 := by rw [h2]; omega
  have hr := run_make (P := Tryz.prog) w 36 3 i _ Tryz.underlying36 hi hz .i64 .i64 n n (by omega) (by omega) hb (by omega)
  simp only [Int.toNat_natCast] at hr
  rw [hr]
  have e : madeCells (Value.int IntKind.i64 0).cells (n * i.size) = ((List.replicate n (0 : Int)).map (Value.int .i64)).toArray := by
    rw [h1, Nat.mul_one]
    apply Array.toList_inj.1
    have : (Value.int IntKind.i64 0).cells = #[.int .i64 0] := rfl
    rw [this, toList_madeCells_one]
    simp
  rw [e]
/-- A row of numbers in a block of our own. -/
def IntBox (W : World) (b : Nat) (es : List Int) : Prop := W.heap[b]? = some (.cells (es.map (Value.int .i64)).toArray 3)
theorem IntBox.cell {W : World} {b : Nat} {es : List Int} (h : IntBox W b es) (k : Nat) (z : Int) (hk : es[k]? = some z) : W.cell? ⟨b, k, none⟩ = some (.int .i64 z) := by
  unfold IntBox at h
  simp [World.cell?, h, hk]
theorem IntBox.frozen {W : World} {b : Nat} {es : List Int} (h : IntBox W b es) (k : Nat) : W.frozen? ⟨b, k, none⟩ = false := by
  unfold IntBox at h
  simp [World.frozen?, h]
theorem IntBox.below {W W' : World} {b : Nat} {es : List Int} (h : IntBox W b es) (hb : Below W.heap.size W W') : IntBox W' b es := (hb.block b (Array.getElem?_eq_some_iff.1 h).1).trans h
theorem IntBox.set {W : World} {b : Nat} {es : List Int} (h : IntBox W b es) (k : Nat) (z : Int) : IntBox (W.setCell ⟨b, k, none⟩ (.int .i64 z)) b (es.set k z) := by
  unfold IntBox at h ⊢
  simp [World.setCell, Array.getElem?_modify, h, List.map_set]
/-- A node with places and Kids of any size. -/
structure Gn where
  kind : Int
  style : Int
  tag : ByteArray
  anchor : ByteArray
  value : ByteArray
  st : Int
  en : Int
  hd : Int
  mr : Int
  kids : List Int
def ki (l : List Int) : List Value := l.map (Value.int .i64)
theorem ki_len (l : List Int) : (ki l).length = l.length := by simp [ki]
theorem ki_at {l : List Int} {j : Nat} {k : Int} (h : l[j]? = some k) : (ki l)[j]? = some (.int .i64 k) := by simp [ki, h]
def gnC (x : Gn) (v : Value) : List Value := [.int .i64 x.kind, .int .i64 x.style, .string x.tag, .string x.anchor, .string x.value, .int .i64 x.st, .int .i64 x.en, .int .i64 x.hd, .int .i64 x.mr, v]
def gn (x : Nd) : Gn := ⟨x.kind, x.style, strOfNums x.tag, strOfNums x.anchor, strOfNums x.value, x.st, x.en, x.hd, x.mr, x.kids.map fun (k : Nat) => (k : Int)⟩
theorem gn_kids (x : Nd) : ki (gn x).kids = kidC x.kids := by simp [ki, gn, kidC]
theorem gn_len (x : Nd) : (gn x).kids.length = x.kids.length := by simp [gn]
theorem gn_cells (x : Nd) (v : Value) : gnC (gn x) v = ndC (x, v) := rfl
/-- A list of nodes of any kind in memory, looked at. -/
structure GL (W : World) (A : Option Addr) (n cap : Nat) (l : List Gn) : Prop where
  len : l.length = n
  le : n ≤ cap
  max : cap ≤ 9223372036854775807
  nil : A = none → cap = 0
  at_ : ∀ (i : Nat) (x : Gn), l[i]? = some x → ∃ g o, A = some ⟨g, o, none⟩ ∧ ∃ K c, x.kids.length ≤ c ∧ c ≤ 9223372036854775807 ∧ (K = none → c = 0) ∧ RdC W K (ki x.kids) ∧ ∀ (j : Nat) (u : Value), (gnC x (.slice K x.kids.length c))[j]? = some u → W.cell? ⟨g, o + i * 10 + j, none⟩ = some u
section
variable {W W' : World} {A : Option Addr} {n cap : Nat} {l : List Gn}
theorem GL.below (h : GL W A n cap l) (hb : Below W.heap.size W W') : GL W' A n cap l :=
  ⟨h.len, h.le, h.max, h.nil, fun i x hx => by obtain ⟨g, o, e, K, c, q1, q2, q0, q3, q4⟩ := h.at_ i x hx; exact ⟨g, o, e, K, c, q1, q2, q0, q3.below hb, fun j u hu => cell_keep hb (q4 j u hu)⟩⟩
theorem Nds.gl {B : Nat} {P : List NK} (h : Nds B W (.slice A n cap) P) (hn : P.length = n) : GL W A n cap ((lst P).map gn) := by
  have hrow := h.row
  rw [hn] at hrow
  obtain ⟨A', cap', e, h1, h2, h3⟩ := own_form hrow
  simp only [Value.slice.injEq, true_and] at e
  obtain ⟨rfl, rfl⟩ := e
  refine ⟨by rw [List.length_map, lst_len]; exact hn, h1, h2, h3, fun i x hx => ?_⟩
  rw [List.getElem?_map, Option.map_eq_some_iff] at hx
  obtain ⟨y, hy, rfl⟩ := hx
  obtain ⟨kv, hp⟩ := lst_at hy
  have hi := (List.getElem?_eq_some_iff.1 hp).1
  obtain ⟨K, c, e, k1, k2, k3⟩ := own_form (h.kid i _ hp)
  dsimp only at e
  subst e
  have hpos : 0 < P.length := by omega
  obtain ⟨g', cap', e, _⟩ := (hn ▸ h).form hpos
  rw [hn] at e
  simp only [Value.slice.injEq, true_and] at e
  obtain ⟨rfl, rfl⟩ := e
  exact ⟨g', 0, rfl, K, c, by rw [gn_len]; exact k1, k2, k3, by rw [gn_kids]; exact RdC.own (h.kid i _ hp), fun j u hu => by rw [gn_len, gn_cells] at hu; rw [Nat.zero_add]; exact (hn ▸ h).cell hp j u hu⟩
end
def gKids (l : List Gn) (i : Nat) : List Int := match l[i]? with
  | some x => x.kids
  | none => []
theorem gKids_at {l : List Gn} {i : Nat} {x : Gn} (h : l[i]? = some x) : gKids l i = x.kids := by unfold gKids; rw [h]
/-- A node's Kids lead so far. -/
def bhE (n : Nat) (ks : List Int) (e : Nat) : Nat := match ks.getLast? with
  | none => e
  | some k => (min (max (e : Int) (k + 1)) (n : Int)).toNat
def bhGo (l : List Gn) (n : Nat) : Nat → Nat → Nat → Nat
  | 0, _, e => e
  | f + 1, i, e => if i < e then bhGo l n f (i + 1) (bhE n (gKids l i) e) else e
/-- Kids that a sum does not leave. -/
def Small (l : List Gn) : Prop := ∀ x ∈ l, x.kids.length ≤ 1000000 ∧ ∀ k ∈ x.kids, -4611686018427387904 ≤ k ∧ k ≤ 4611686018427387904
abbrev GK := Gn × Value
def gkC (p : GK) : List Value := gnC p.1 p.2
def gksC (P : List GK) : List Value := P.flatMap gkC
theorem gkC_len (p : GK) : (gkC p).length = 10 := rfl
theorem gksC_cons (p : GK) (t : List GK) : gksC (p :: t) = gkC p ++ gksC t := List.flatMap_cons
theorem gksC_len : ∀ P : List GK, (gksC P).length = P.length * 10
  | [] => rfl
  | p :: t => by rw [gksC_cons, List.length_append, gksC_len t, gkC_len, List.length_cons]; omega
theorem gksC_at : ∀ (P : List GK) (i j : Nat) (p : GK), P[i]? = some p → j < 10 → (gksC P)[i * 10 + j]? = (gkC p)[j]?
  | [], i, j, p, h, _ => by simp at h
  | q :: t, 0, j, p, h, hj => by
    simp at h; subst h
    rw [gksC_cons, List.getElem?_append_left (by rw [gkC_len]; omega)]; simp
  | q :: t, i + 1, j, p, h, hj => by
    simp at h
    rw [gksC_cons, List.getElem?_append_right (by rw [gkC_len]; omega), gkC_len, show (i + 1) * 10 + j - 10 = i * 10 + j by omega]
    exact gksC_at t i j p h hj
theorem gksC_set : ∀ (P : List GK) (i j : Nat) (p p' : GK) (u : Value), P[i]? = some p → j < 10 → gkC p' = (gkC p).set j u → (gksC P).set (i * 10 + j) u = gksC (P.set i p')
  | [], i, j, p, p', u, h, _, _ => by simp at h
  | q :: t, 0, j, p, p', u, h, hj, hp => by
    simp at h; subst h
    rw [gksC_cons, List.set_append_left _ _ (by rw [gkC_len]; omega), List.set_cons_zero, gksC_cons, hp]; simp
  | q :: t, i + 1, j, p, p', u, h, hj, hp => by
    simp at h
    rw [gksC_cons, List.set_append_right _ _ (by rw [gkC_len]; omega), gkC_len, show (i + 1) * 10 + j - 10 = i * 10 + j by omega, gksC_set t i j p p' u h hj hp, List.set_cons_succ, gksC_cons]
theorem gset_look {P : List GK} {i q : Nat} {p p' y : GK} (hp : P[i]? = some p) (hy : (P.set i p')[q]? = some y) : (q = i ∧ y = p') ∨ (q ≠ i ∧ P[q]? = some y) := by
  have hi := (List.getElem?_eq_some_iff.1 hp).1
  by_cases hq : i = q
  · subst hq
    rw [List.getElem?_set_self hi] at hy
    injection hy with hy
    exact .inl ⟨rfl, hy.symm⟩
  · rw [List.getElem?_set_ne hq] at hy
    exact .inr ⟨fun e => hq e.symm, hy⟩
/-- The nodes' row, and each node's Kids, all in memory of our own, each in a block of its own. -/
structure GNds (B : Nat) (W : World) (v : Value) (P : List GK) : Prop where
  row : W.ownsRow B 47 10 v P.length (gksC P)
  kid : ∀ (i : Nat) (p : GK), P[i]? = some p → W.ownsRow B 3 1 p.2 p.1.kids.length (ki p.1.kids)
  apart : ∀ (i j : Nat) (p q : GK) (k : Nat), P[i]? = some p → P[j]? = some q → i ≠ j → p.2.ownBlock = some k → q.2.ownBlock ≠ some k
  off : ∀ (i : Nat) (p : GK) (k : Nat), P[i]? = some p → p.2.ownBlock = some k → v.ownBlock ≠ some k
def glst (P : List GK) : List Gn := P.map Prod.fst
theorem GNds.below {B : Nat} {W W' : World} {v : Value} {P : List GK} (h : GNds B W v P) (hb : Below W.heap.size W W') : GNds B W' v P :=
  ⟨own_below h.row hb, fun i p hp => own_below (h.kid i p hp) hb, h.apart, h.off⟩
theorem GNds.gl {B : Nat} {W : World} {n cap : Nat} {A : Option Addr} {P : List GK} (h : GNds B W (.slice A n cap) P) (hn : P.length = n) : GL W A n cap (glst P) := by
  have hrow := h.row
  rw [hn] at hrow
  rcases hrow.2 with ⟨e, h0⟩ | ⟨g, cap', cur, e, _, _, h1, h2, _⟩
  · simp only [Value.slice.injEq] at e
    obtain ⟨rfl, _, rfl⟩ := e
    have hP : P = [] := List.eq_nil_of_length_eq_zero (by omega)
    subst hP
    exact ⟨by simp [glst]; exact hn, by omega, by omega, fun _ => rfl, fun i x hx => by simp [glst] at hx⟩
  · simp only [Value.slice.injEq, true_and] at e
    obtain ⟨rfl, rfl⟩ := e
    refine ⟨by simp [glst]; exact hn, h1, by unfold maxLen at h2; omega, fun e => by (cases e), fun i x hx => ?_⟩
    simp only [glst, List.getElem?_map, Option.map_eq_some_iff] at hx
    obtain ⟨⟨y, kv⟩, hp, rfl⟩ := hx
    have hi := (List.getElem?_eq_some_iff.1 hp).1
    have hk := h.kid i _ hp
    obtain ⟨K, c, e, k1, k2, k3⟩ := own_form hk
    dsimp only at e hk k1
    subst e
    refine ⟨g, 0, rfl, K, c, k1, k2, k3, RdC.own hk, fun j u hu => ?_⟩
    have hj : j < 10 := by have := (List.getElem?_eq_some_iff.1 hu).1; exact this
    rw [Nat.zero_add, hrow.cellAt _ (by omega), gksC_at P i j _ hp hj]
    exact hu
def Gn.mapK (f : Int → Int) (x : Gn) : Gn := { x with kids := x.kids.map f }
/-- A copy whose first i nodes are done. -/
structure Cpy (B : Nat) (V : World) (v : Value) (l : List GK) (f : Int → Int) (i : Nat) (P : List GK) : Prop where
  len : P.length = l.length
  row : V.ownsRow B 47 10 v l.length (gksC P)
  done : ∀ (q : Nat) (p : GK), q < i → P[q]? = some p → V.ownsRow B 3 1 p.2 p.1.kids.length (ki p.1.kids)
  is : ∀ (q : Nat) (p : GK), q < i → P[q]? = some p → ∃ x, l[q]? = some x ∧ p.1 = x.1.mapK f
  rest : ∀ q, i ≤ q → P[q]? = l[q]?
  apart : ∀ (q r : Nat) (p y : GK) (k : Nat), q < i → r < i → P[q]? = some p → P[r]? = some y → q ≠ r → p.2.ownBlock = some k → y.2.ownBlock ≠ some k
  off : ∀ (q : Nat) (p : GK) (k : Nat), q < i → P[q]? = some p → p.2.ownBlock = some k → v.ownBlock ≠ some k
section
variable {B : Nat} {V V2 : World} {v : Value} {l P : List GK} {f : Int → Int} {i : Nat}
theorem Cpy.below (h : Cpy B V v l f i P) (hb : Below V.heap.size V V2) : Cpy B V2 v l f i P :=
  ⟨h.len, own_below h.row hb, fun q p hq hp => own_below (h.done q p hq hp) hb, h.is, h.rest, h.apart, h.off⟩
theorem Cpy.step {g cap : Nat} (h : Cpy B V (.slice (some ⟨g, 0, none⟩) l.length cap) l f i P) {x : GK} (hx : l[i]? = some x) {kv : Value} (hb : Below V.heap.size V V2) (hB : B ≤ V.heap.size)
    (hk : V2.ownsRow V.heap.size 3 1 kv x.1.kids.length (ki (x.1.kids.map f))) :
    Cpy B (V2.setCell ⟨g, i * 10 + 9, none⟩ kv) (.slice (some ⟨g, 0, none⟩) l.length cap) l f (i + 1) (P.set i (x.1.mapK f, kv)) := by
  have hPi : P[i]? = some x := by rw [h.rest i (Nat.le_refl _)]; exact hx
  have h2 := h.below hb
  have hgs := grown_store V2 g (i * 10 + 9) kv
  have hgV : g < V.heap.size := own_lt h.row g (by simp [Value.ownBlock])
  have kvB : ∀ k, kv.ownBlock = some k → V.heap.size ≤ k := own_base hk
  have kid_lt : ∀ (q : Nat) (p : GK) (k : Nat), q < i → P[q]? = some p → p.2.ownBlock = some k → k < V.heap.size := fun q p k hq hp hk => own_lt (h.done q p hq hp) k hk
  refine ⟨by rw [List.length_set]; exact h.len, ?_, ?_, ?_, ?_, ?_, ?_⟩
  · rw [← gksC_set P i 9 x (x.1.mapK f, kv) kv hPi (by omega) rfl]
    exact (h2.row.stored _ _).1
  · intro q p hq hp
    rcases gset_look hPi hp with ⟨rfl, rfl⟩ | ⟨hne, hp⟩
    · show World.ownsRow _ _ _ _ kv (x.1.kids.map f).length (ki (x.1.kids.map f))
      rw [List.length_map]
      have hk' : V2.ownsRow B 3 1 kv x.1.kids.length (ki (x.1.kids.map f)) := by
        refine ⟨hk.1, ?_⟩
        rcases hk.2 with h | ⟨g', cap', cur, a1, a2, a3⟩
        · exact .inl h
        · exact .inr ⟨g', cap', cur, a1, Nat.le_trans hB a2, a3⟩
      exact own_kept hk' hgs (fun k e e2 => by injection e with e; subst e; have := kvB _ e2; omega)
    · exact own_kept (h2.done q p (by omega) hp) hgs (fun k e e2 => by injection e with e; subst e; exact h.off q p _ (by omega) hp e2 rfl)
  · intro q p hq hp
    rcases gset_look hPi hp with ⟨rfl, rfl⟩ | ⟨hne, hp⟩
    · exact ⟨x, hx, rfl⟩
    · exact h.is q p (by omega) hp
  · intro q hq
    rw [List.getElem?_set_ne (by omega)]
    exact h.rest q (by omega)
  · intro q r p y k hq hr hp hy hne hk2
    rcases gset_look hPi hp with ⟨rfl, rfl⟩ | ⟨hn1, hp⟩
    · rcases gset_look hPi hy with ⟨e1, _⟩ | ⟨hn2, hy⟩
      · exact absurd e1.symm hne
      · intro e
        have := kid_lt r y k (by omega) hy e
        have := kvB k hk2
        omega
    · rcases gset_look hPi hy with ⟨e1, rfl⟩ | ⟨hn2, hy⟩
      · intro e
        have := kid_lt q p k (by omega) hp hk2
        have := kvB k e
        omega
      · exact h.apart q r p y k (by omega) (by omega) hp hy hne hk2
  · intro q p k hq hp hk2
    rcases gset_look hPi hp with ⟨rfl, rfl⟩ | ⟨hn1, hp⟩
    · intro e
      simp only [Value.ownBlock, Option.some.injEq] at e
      have := kvB k hk2
      omega
    · exact h.off q p k (by omega) hp hk2
end
/-- The answer is yes just where p holds. -/
def AnsB (W : World) (p : Prop) (e : Ending) (w' : World) : Prop := ∃ b, e = .returned (.bool b) ∧ (b = true ↔ p) ∧ Below W.heap.size W w'
set_option maxHeartbeats 2000000 in
theorem ksameI_at {W : World} {A B : Option Addr} {n c m d : Nat} {ks js : List Int} (hl : ks.length = n) (hm : js.length = m) (hn : n ≤ 1000000) (hn2 : m ≤ 1000000) (ha : RdC W A (ki ks)) (hb : RdC W B (ki js)) :
    Calls Tryz.prog 17 #[.slice A n c, .slice B m d] W (AnsB W (ks = js)) := by
  by_cases hnm : n = m
  · subst hnm
    have HA := Lib.hid ha
    have HB := Lib.hid hb
    have HL := Lib.hid (And.intro hl hm)
    clear ha hb hl hm
    go_enter Tryz.func17, Tryz.ntmps17
    go_wp2_with fail
    go_loopw [5] (fun u V => ∃ k : Nat, k ≤ n ∧ u = .int .i64 (k : Int) ∧ Hid (Below W.heap.size W V ∧ ∀ j, j < k → ks[j]? = js[j]?)) (fun u _ => n - (intOf u).toNat)
    case atStart => exact ⟨0, Nat.zero_le _, rfl, Below.refl _ _, fun j hj => by omega⟩
    case round =>
      obtain ⟨k, hk, rfl, HQ⟩ := hrel
      obtain ⟨V, hV⟩ : ∃ z, z = wr := ⟨_, rfl⟩
      subst hV
      by_cases hlt : k < n
      · have dk : (k : Int) < (n : Int) := by omega
        obtain ⟨x, hx⟩ : ∃ z, ks[k]? = some z := ⟨ks[k]'(by rw [HL.out.1]; exact hlt), List.getElem?_eq_getElem _⟩
        obtain ⟨y, hy⟩ : ∃ z, js[k]? = some z := ⟨js[k]'(by rw [HL.out.2]; exact hlt), List.getElem?_eq_getElem _⟩
        obtain ⟨g, o, rfl, hc⟩ := (HA.out.below HQ.out.1).addr (by rw [ki_len, HL.out.1]; omega)
        obtain ⟨g2, o2, rfl, hc2⟩ := (HB.out.below HQ.out.1).addr (by rw [ki_len, HL.out.2]; omega)
        have c1 := hc k _ (ki_at hx)
        have c2 := hc2 k _ (ki_at hy)
        have HXY := Lib.hid (And.intro hx hy)
        clear hc hc2 hx hy
        by_cases hxy : x = y
        · subst hxy
          go_wp2_with fail
          go_quiet (fail)
          go_wp2
          go_roundw
          case rel =>
            refine ⟨k + 1, by omega, by go_num, below_draws HQ.out.1 _, fun j hj => ?_⟩
            by_cases e : j = k
            · subst e; rw [HXY.out.1, HXY.out.2]
            · exact HQ.out.2 j (by omega)
          case measure => simp [intOf]; omega
        · go_wp2_with fail
          go_quiet (fail)
          go_wp2
          go_ret
          refine ⟨false, rfl, ⟨fun h => (by cases h), fun h => ?_⟩, below_draws HQ.out.1 _⟩
          subst h
          rw [HXY.out.1] at HXY
          exact absurd (by have := HXY.out.2; injection this) hxy
      · obtain rfl : k = n := by omega
        go_wp2
        go_ret
        refine ⟨true, rfl, ⟨fun _ => ?_, fun _ => rfl⟩, HQ.out.1⟩
        apply List.ext_getElem?
        intro j
        by_cases h : j < k
        · exact HQ.out.2 j h
        · rw [List.getElem?_eq_none (by rw [HL.out.1]; omega), List.getElem?_eq_none (by rw [HL.out.2]; omega)]
  · have hne : ¬ ks = js := fun h => hnm (by rw [← hl, ← hm, h])
    have hnm' : ((n : Int) == (m : Int)) = false := by rw [beq_eq_false_iff_ne]; omega
    have hnm2 : ¬ (n : Int) = (m : Int) := by omega
    clear ha hb hl hm
    go_enter Tryz.func17, Tryz.ntmps17
    go_wp2
    go_ret
    exact ⟨false, rfl, ⟨fun h => (by cases h), fun h => absurd h hne⟩, Below.refl _ _⟩
theorem gstr_ne {p q : ByteArray} (h : ¬ p = q) : (p.toList == q.toList) = false := by
  rw [beq_eq_false_iff_ne]
  intro e
  simp only [Lib.toList_data] at e
  exact h (ByteArray.ext (Array.toList_inj.1 e))
theorem cell_heap {V U : World} {g k : Nat} (h : U.heap[g]? = V.heap[g]?) : U.cell? ⟨g, k, none⟩ = V.cell? ⟨g, k, none⟩ := by simp [World.cell?, h]
/-- A list's nodes with the values of their Kids' slices. -/
theorem GL.gk {W : World} {A : Option Addr} {n cap : Nat} {l : List Gn} (h : GL W A n cap l) : ∃ L : List GK, glst L = l ∧ L.length = n ∧ RdC W A (gksC L) ∧
    ∀ (i : Nat) (p : GK), L[i]? = some p → ∃ K c, p.2 = .slice K p.1.kids.length c ∧ p.1.kids.length ≤ c ∧ c ≤ 9223372036854775807 ∧ (K = none → c = 0) ∧ RdC W K (ki p.1.kids) := by
  have hx : ∀ (i : Nat), ∃ v : Value, ∀ x, l[i]? = some x → ∃ g o, A = some ⟨g, o, none⟩ ∧ ∃ K c, v = .slice K x.kids.length c ∧ x.kids.length ≤ c ∧ c ≤ 9223372036854775807 ∧ (K = none → c = 0) ∧ RdC W K (ki x.kids) ∧ ∀ (j : Nat) (u : Value), (gnC x v)[j]? = some u → W.cell? ⟨g, o + i * 10 + j, none⟩ = some u := by
    intro i
    cases hi : l[i]? with
    | none => exact ⟨.bool false, fun x hx => by cases hx⟩
    | some x =>
      obtain ⟨g, o, e, K, c, q⟩ := h.at_ i x hi
      refine ⟨.slice K x.kids.length c, fun y hy => ?_⟩
      injection hy with hy
      subst hy
      exact ⟨g, o, e, K, c, rfl, q⟩
  have ⟨F, hF⟩ := Classical.axiomOfChoice hx
  have hlen : (l.mapIdx fun i x => (x, F i)).length = n := by rw [List.length_mapIdx]; exact h.len
  have hat : ∀ (i : Nat) (p : GK), (l.mapIdx fun i x => (x, F i))[i]? = some p → l[i]? = some p.1 ∧ p.2 = F i := by
    intro i p hp
    rw [List.getElem?_mapIdx, Option.map_eq_some_iff] at hp
    obtain ⟨x, hx, rfl⟩ := hp
    exact ⟨hx, rfl⟩
  refine ⟨l.mapIdx fun i x => (x, F i), ?_, hlen, ?_, ?_⟩
  · apply List.ext_getElem?
    intro i
    simp only [glst, List.getElem?_map, List.getElem?_mapIdx, Option.map_map]
    cases l[i]? <;> rfl
  · intro k v hk
    have hkl := (List.getElem?_eq_some_iff.1 hk).1
    rw [gksC_len, hlen] at hkl
    have hi : k / 10 < (l.mapIdx fun i x => (x, F i)).length := by rw [hlen]; omega
    have hp := List.getElem?_eq_getElem hi
    obtain ⟨h1, h2⟩ := hat _ _ hp
    obtain ⟨g, o, e, K, c, q1, q2, q3, q4, q5, q6⟩ := hF _ _ h1
    refine ⟨g, o, e, ?_⟩
    have hk2 : (gksC (l.mapIdx fun i x => (x, F i)))[k / 10 * 10 + k % 10]? = some v := by rw [show k / 10 * 10 + k % 10 = k by omega]; exact hk
    rw [gksC_at _ _ _ _ hp (by omega), gkC, h2] at hk2
    have := q6 _ _ hk2
    rwa [show o + k / 10 * 10 + k % 10 = o + k by omega] at this
  · intro i p hp
    obtain ⟨h1, h2⟩ := hat _ _ hp
    obtain ⟨g, o, e, K, c, q1, q2, q3, q4, q5, q6⟩ := hF _ _ h1
    exact ⟨K, c, by rw [h2]; exact q1, q2, q3, q4, q5⟩
theorem row_addr {W : World} {B n size : Nat} {e : TypeId} {A : Option Addr} {cap : Nat} {xs : List Value} (h : W.ownsRow B e size (.slice A n cap) n xs) (h0 : 0 < n) : ∃ g, A = some ⟨g, 0, none⟩ ∧ B ≤ g ∧ g < W.heap.size := by
  rcases h.2 with ⟨e1, h1⟩ | ⟨g, cap', cur, e1, hb, hg, _⟩
  · omega
  · simp only [Value.slice.injEq] at e1
    exact ⟨g, e1.1, hb, (Array.getElem?_eq_some_iff.1 hg).1⟩
theorem own_lower {W : World} {B C n size : Nat} {e : TypeId} {v : Value} {xs : List Value} (h : W.ownsRow B e size v n xs) (hC : C ≤ B) : W.ownsRow C e size v n xs := by
  refine ⟨h.1, ?_⟩
  rcases h.2 with h | ⟨g', cap', cur, a1, a2, a3⟩
  · exact .inl h
  · exact .inr ⟨g', cap', cur, a1, Nat.le_trans hC a2, a3⟩
theorem GNds.nil (B : Nat) (W : World) : GNds B W (.slice none 0 0) [] := ⟨own_nil W B 10 _, fun i p h => by simp at h, fun i j p q k h => by simp at h, fun i p k h => by simp at h⟩
/-- A list of nodes in memory that is new since W. -/
def NewG (W : World) (l : List Gn) (e : Ending) (w' : World) : Prop :=
  ∃ A m cap P, e = .returned (.slice A m cap) ∧ m ≤ cap ∧ cap ≤ 9223372036854775807 ∧ GNds W.heap.size w' (.slice A m cap) P ∧ P.length = m ∧ glst P = l ∧ Below W.heap.size W w'
def subF (l : List Gn) (a : Int) : List Gn := if 0 ≤ a ∧ a < (l.length : Int) then ((l.take (bhGo l l.length (l.length - a.toNat) a.toNat (a.toNat + 1))).drop a.toNat).map (Gn.mapK (· - a)) else []
theorem Small.sub {l : List Gn} (h : Small l) (a b : Nat) : Small ((l.take b).drop a) := fun x hx => h x (List.mem_of_mem_take (List.mem_of_mem_drop hx))
theorem TRow.hit {T : Nat → Nat → Prop} {j : Nat} : ∀ {ks : List Nat} {s e : Nat}, TRow T s ks e → s ≤ j → j < e → ∃ k e1, k ∈ ks ∧ T k e1 ∧ k ≤ j ∧ j < e1
  | [], s, e, g, h1, h2 => by have : s = e := g; omega
  | k :: ks, s, e, ⟨g1, e1, g2, g3⟩, h1, h2 => by
    by_cases h : j < e1
    · exact ⟨k, e1, by simp, g2, by omega, h⟩
    · obtain ⟨k', e', q1, q2, q3, q4⟩ := g3.hit (j := j) (by omega) h2
      exact ⟨k', e', List.mem_cons_of_mem _ q1, q2, q3, q4⟩
theorem TRow.mem {T : Nat → Nat → Prop} (hT : ∀ k e, T k e → k < e) : ∀ {ks : List Nat} {s e : Nat}, TRow T s ks e → ∀ k ∈ ks, ∃ e1, T k e1 ∧ s ≤ k ∧ e1 ≤ e
  | [], s, e, g, k, h => by simp at h
  | c :: ks, s, e, ⟨g1, e1, g2, g3⟩, k, h => by
    have h1 := hT _ _ g2
    have h2 := g3.ge hT
    rcases List.mem_cons.1 h with rfl | h
    · exact ⟨e1, g2, by omega, h2⟩
    · obtain ⟨e2, q1, q2, q3⟩ := g3.mem hT k h
      exact ⟨e2, q1, by omega, q3⟩
theorem TRow.last {T : Nat → Nat → Prop} (hT : ∀ k e, T k e → k < e) : ∀ {ks : List Nat} {s e : Nat}, TRow T s ks e → ∀ j, ks.getLast? = some j → T j e ∧ ∀ k ∈ ks, k ≤ j
  | [], s, e, g, j, h => by simp at h
  | [c], s, e, ⟨g1, e1, g2, g3⟩, j, h => by
    have h3 : e1 = e := g3
    simp at h
    subst h h3
    exact ⟨g2, by simp⟩
  | c :: d :: ks, s, e, ⟨g1, e1, g2, g3⟩, j, h => by
    rw [List.getLast?_cons_cons] at h
    obtain ⟨q1, q2⟩ := g3.last hT j h
    refine ⟨q1, fun k hk => ?_⟩
    rcases List.mem_cons.1 hk with rfl | hk
    · have h1 := hT _ _ g2
      obtain ⟨g4, _⟩ := g3
      have := q2 d (by simp)
      omega
    · exact q2 k hk
section
variable {l : List Nd} {E : Nat → Nat}
theorem Ends'.rowT {i : Nat} {x : Nd} (h : Ends' l E) (hx : l[i]? = some x) : TRow (fun k e => k < e ∧ i < k ∧ k < l.length ∧ e = E k) (i + 1) x.kids (E i) := by
  refine (h.node i x hx).2.2.2.imp fun k e ⟨g1, g2, g3⟩ => ⟨?_, g1, g2, g3⟩
  rw [g3]
  exact (h.node k _ (List.getElem?_eq_getElem g2)).1
/-- Each node but the first of a tree is a Kid of one ahead of it. -/
theorem Ends'.parent (h : Ends' l E) : ∀ (m a j : Nat), j - a ≤ m → a < j → a < l.length → j < E a → ∃ (p : Nat) (x : Nd), a ≤ p ∧ p < j ∧ l[p]? = some x ∧ j ∈ x.kids
  | 0, a, j, hm, h1, _, _ => by omega
  | m + 1, a, j, hm, h1, hl, h2 => by
    have hx := List.getElem?_eq_getElem hl
    obtain ⟨k, e, q1, ⟨q2, q3, q4, q5⟩, q6, q7⟩ := (h.rowT hx).hit (by omega) h2
    by_cases hk : k = j
    · subst hk; exact ⟨a, _, Nat.le_refl _, h1, hx, q1⟩
    · subst q5
      obtain ⟨p, x, r1, r2, r3, r4⟩ := Ends'.parent h m k j (by omega) (by omega) q4 q7
      exact ⟨p, x, by omega, r2, r3, r4⟩
/-- Trees lie in one another. -/
theorem Ends'.nest (h : Ends' l E) : ∀ (m a p : Nat), p - a ≤ m → a ≤ p → a < l.length → p < E a → E p ≤ E a
  | m, a, p, hm, h1, hl, h2 => by
    by_cases hap : a = p
    · subst hap; exact Nat.le_refl _
    · cases m with
      | zero => omega
      | succ m =>
        have hx := List.getElem?_eq_getElem hl
        obtain ⟨k, e, q1, ⟨q2, q3, q4, q5⟩, q6, q7⟩ := (h.rowT hx).hit (by omega) h2
        subst q5
        have := Ends'.nest h m k p (by omega) q6 q4 q7
        obtain ⟨e1, ⟨_, _, _, r1⟩, r2, r3⟩ := (h.rowT hx).mem (fun k e g => g.1) k q1
        omega
theorem gKids_tree {i : Nat} {x : Nd} (hx : l[i]? = some x) : gKids (l.map gn) i = x.kids.map fun (k : Nat) => (k : Int) := gKids_at (x := gn x) (by rw [List.getElem?_map, hx]; rfl)
theorem bhE_tree {n m e : Nat} {ks : List Nat} (hm : m ≤ n) (he : e ≤ m) (hk : ∀ k ∈ ks, k + 1 ≤ m) (hl : ∀ j, ks.getLast? = some j → ∀ k ∈ ks, k ≤ j) :
    e ≤ bhE n (ks.map fun (k : Nat) => (k : Int)) e ∧ bhE n (ks.map fun (k : Nat) => (k : Int)) e ≤ m ∧ ∀ k ∈ ks, k + 1 ≤ bhE n (ks.map fun (k : Nat) => (k : Int)) e := by
  unfold bhE
  rw [List.getLast?_map]
  cases hj : ks.getLast? with
  | none =>
    rw [List.getLast?_eq_none_iff.1 hj]
    exact ⟨Nat.le_refl _, he, by simp⟩
  | some j =>
    have h1 := hk j (List.mem_of_getLast? hj)
    dsimp only [Option.map]
    refine ⟨by omega, by omega, fun k hkm => ?_⟩
    have := hl j hj k hkm
    omega
theorem bh_go (h : Ends' l E) {a : Nat} (ha : a < l.length) : ∀ (f i e : Nat), l.length - i ≤ f → a ≤ i → i ≤ e → a < e → e ≤ E a → (∀ (p : Nat) (x : Nd), a ≤ p → p < i → l[p]? = some x → ∀ k ∈ x.kids, k + 1 ≤ e) → bhGo (l.map gn) l.length f i e = E a := by
  have hEa := (h.node a _ (List.getElem?_eq_getElem ha)).2.1
  have stop : ∀ (i e : Nat), i = e → a < e → e ≤ E a → (∀ (p : Nat) (x : Nd), a ≤ p → p < i → l[p]? = some x → ∀ k ∈ x.kids, k + 1 ≤ e) → e = E a := by
    intro i e h1 h2 h3 h4
    subst h1
    by_cases hlt : i < E a
    · obtain ⟨p, x, r1, r2, r3, r4⟩ := h.parent _ a i (Nat.le_refl _) h2 ha hlt
      have := h4 p x r1 r2 r3 i r4
      omega
    · omega
  intro f
  induction f with
  | zero =>
    intro i e hf h1 h2 h3 h4 h5
    exact stop i e (by omega) h3 h4 h5
  | succ f ih =>
    intro i e hf h1 h2 h3 h4 h5
    by_cases hlt : i < e
    · rw [bhGo, if_pos hlt]
      have hil : i < l.length := by omega
      have hx := List.getElem?_eq_getElem hil
      rw [gKids_tree hx]
      have hn := h.nest _ a i (Nat.le_refl _) h1 ha (by omega)
      have hr := h.rowT hx
      obtain ⟨c1, c2, c3⟩ := bhE_tree (n := l.length) (m := E a) (e := e) (ks := l[i].kids) hEa h4
        (fun k hk => by obtain ⟨e1, ⟨q1, _⟩, _, q3⟩ := hr.mem (fun k e g => g.1) k hk; omega)
        (fun j hj => (hr.last (fun k e g => g.1) j hj).2)
      refine ih (i + 1) _ (by omega) (by omega) (by omega) (by omega) c2 fun p x r1 r2 r3 k hk => ?_
      by_cases hp : p = i
      · subst hp
        rw [hx] at r3
        injection r3 with r3
        subst r3
        exact c3 k hk
      · have := h5 p x r1 (by omega) r3 k hk
        omega
    · rw [bhGo, if_neg hlt]
      exact stop i e (by omega) h3 h4 h5
theorem bh_tree (h : Ends' l E) {a : Nat} (ha : a < l.length) : bhGo (l.map gn) l.length (l.length - a) a (a + 1) = E a :=
  bh_go h ha _ _ _ (Nat.le_refl _) (Nat.le_refl _) (by omega) (by omega) (by have := (h.node a _ (List.getElem?_eq_getElem ha)).1; omega) (fun p x r1 r2 => by omega)
/-- A tree's Kids are small. -/
theorem Ends'.small (h : Ends' l E) (hn : l.length ≤ 1000000) (hk : ∀ x ∈ l, x.kids.length ≤ 1000000) : Small (l.map gn) := by
  intro y hy
  obtain ⟨x, hx, rfl⟩ := List.mem_map.1 hy
  refine ⟨by rw [gn_len]; exact hk x hx, fun k hkm => ?_⟩
  obtain ⟨i, hi⟩ := List.mem_iff_getElem?.1 hx
  obtain ⟨k', hk', rfl⟩ := List.mem_map.1 hkm
  obtain ⟨e1, ⟨_, _, q, _⟩, _⟩ := (h.rowT hi).mem (fun k e g => g.1) k' hk'
  omega
end
def ndOf (x : Gn) : Nd := ⟨x.kind, 0, [], [], [], 0, 0, 0, 0, x.kids.map Int.toNat⟩
/-- A tree, and where each node's own ends. -/
structure GE (l : List Gn) (E : Nat → Nat) : Prop where
  pos : ∀ x ∈ l, ∀ k ∈ x.kids, 0 ≤ k
  ends : Ends' (l.map ndOf) E
theorem Ends'.like {l m : List Nd} {E : Nat → Nat} (h : Ends' l E) (hl : m.length = l.length) (hi : ∀ (i : Nat) (y : Nd), m[i]? = some y → ∃ x, l[i]? = some x ∧ x.kind = y.kind ∧ x.kids = y.kids) : Ends' m E := by
  refine ⟨by rw [hl]; exact h.root, fun i y hy => ?_⟩
  obtain ⟨x, hx, e1, e2⟩ := hi i y hy
  have := h.node i x hx
  rw [e1, e2] at this
  rw [hl]
  exact this
theorem toNat_cast (ks : List Nat) : (ks.map fun (k : Nat) => (k : Int)).map Int.toNat = ks := by
  rw [List.map_map]
  have : (Int.toNat ∘ fun (k : Nat) => (k : Int)) = id := by funext k; simp
  rw [this, List.map_id]
theorem cast_toNat {ks : List Int} (h : ∀ k ∈ ks, 0 ≤ k) : ((ks.map Int.toNat).map fun (k : Nat) => (k : Int)) = ks := by
  rw [List.map_map]
  refine (List.map_congr_left fun k hk => ?_).trans (List.map_id ks)
  have := h k hk
  simp only [Function.comp]
  exact Int.toNat_of_nonneg this
theorem Ends'.ge {l : List Nd} {E : Nat → Nat} (h : Ends' l E) : GE (l.map gn) E := by
  refine ⟨?_, ?_⟩
  · intro y hy k hk
    obtain ⟨x, _, rfl⟩ := List.mem_map.1 hy
    obtain ⟨k', _, rfl⟩ := List.mem_map.1 hk
    omega
  · refine h.like (by simp) fun i y hy => ?_
    rw [List.map_map, List.getElem?_map, Option.map_eq_some_iff] at hy
    obtain ⟨x, hx, rfl⟩ := hy
    exact ⟨x, hx, rfl, (toNat_cast x.kids).symm⟩
section
variable {l : List Gn} {E : Nat → Nat}
theorem GE.look (h : GE l E) {i : Nat} {x : Gn} (hx : l[i]? = some x) : (l.map ndOf)[i]? = some (ndOf x) := by rw [List.getElem?_map, hx]; rfl
theorem GE.kids (h : GE l E) {i : Nat} {x : Gn} (hx : l[i]? = some x) : x.kids = (x.kids.map Int.toNat).map fun (k : Nat) => (k : Int) := (cast_toNat (h.pos x (List.mem_of_getElem? hx))).symm
theorem gKids_nd (h : GE l E) (i : Nat) : gKids ((l.map ndOf).map gn) i = gKids l i := by
  cases hx : l[i]? with
  | none =>
    unfold gKids
    rw [List.getElem?_map, List.getElem?_map, hx]
    rfl
  | some x =>
    rw [gKids_tree (h.look hx), gKids_at hx]
    exact (h.kids hx).symm
theorem bhGo_nd (h : GE l E) : ∀ (n f i e : Nat), bhGo ((l.map ndOf).map gn) n f i e = bhGo l n f i e
  | n, 0, i, e => rfl
  | n, f + 1, i, e => by rw [bhGo, bhGo, gKids_nd h, bhGo_nd h n f]
theorem GE.behind (h : GE l E) {a : Nat} (ha : a < l.length) : bhGo l l.length (l.length - a) a (a + 1) = E a := by
  have := bh_tree h.ends (a := a) (by rw [List.length_map]; exact ha)
  rw [bhGo_nd h, List.length_map] at this
  exact this
theorem TRow.shift {n a i m : Nat} (hm : m ≤ n) : ∀ {ks : List Nat} {s e : Nat}, a ≤ i → i < s → e ≤ m → (∀ k, i < k → k < n → k < E k) → TRow (fun k e => i < k ∧ k < n ∧ e = E k) s ks e → TRow (fun k e => i - a < k ∧ k < m - a ∧ e = E (a + k) - a) (s - a) (ks.map (· - a)) (e - a)
  | [], s, e, _, _, _, _, g => by have : s = e := g; subst this; rfl
  | k :: ks, s, e, ha, hs, he, hE, ⟨g1, e1, ⟨q1, q2, q3⟩, g3⟩ => by
    subst g1 q3
    have h1 := hE k q1 q2
    have h2 : E k ≤ e := by
      have h3 : TRow (fun k e => k < e ∧ i < k ∧ k < n ∧ e = E k) (E k) ks e := g3.imp fun k e ⟨r1, r2, r3⟩ => ⟨by rw [r3]; exact hE k r1 r2, r1, r2, r3⟩
      exact h3.ge fun k e g => g.1
    refine ⟨rfl, E k - a, ⟨by show i - a < k - a; omega, by show k - a < m - a; omega, by show E k - a = E (a + (k - a)) - a; rw [show a + (k - a) = k by omega]⟩, ?_⟩
    exact TRow.shift hm ha (by omega) he hE g3
/-- The tree below a node. -/
theorem GE.sub (h : GE l E) {a : Nat} (ha : a < l.length) : GE (subF l (a : Int)) (fun i => E (a + i) - a) ∧ (subF l (a : Int)).length = E a - a ∧ E a ≤ l.length ∧ a < E a := by
  have hEa := h.ends.node a _ (h.look (List.getElem?_eq_getElem ha))
  rw [List.length_map] at hEa
  have hsub : subF l (a : Int) = ((l.take (E a)).drop a).map (Gn.mapK (· - (a : Int))) := by
    unfold subF
    rw [if_pos (by omega), Int.toNat_natCast, h.behind ha]
  have hlen : (subF l (a : Int)).length = E a - a := by
    rw [hsub, List.length_map, List.length_drop, List.length_take]
    omega
  have hat : ∀ (i : Nat) (y : Gn), (subF l (a : Int))[i]? = some y → a + i < E a ∧ ∃ x, l[a + i]? = some x ∧ y = x.mapK (· - (a : Int)) := by
    intro i y hy
    rw [hsub, List.getElem?_map, Option.map_eq_some_iff] at hy
    obtain ⟨x, hx, rfl⟩ := hy
    rw [List.getElem?_drop, List.getElem?_take] at hx
    split at hx
    · exact ⟨by assumption, x, hx, rfl⟩
    · cases hx
  have kid_ge : ∀ (i : Nat) (x : Gn), l[i]? = some x → ∀ k ∈ x.kids, (i : Int) < k := by
    intro i x hx k hk
    have hr := h.ends.rowT (h.look hx)
    have hk' : k.toNat ∈ (ndOf x).kids := List.mem_map.2 ⟨k, hk, rfl⟩
    obtain ⟨e1, ⟨_, q, _, _⟩, _⟩ := hr.mem (fun k e g => g.1) _ hk'
    have := h.pos x (List.mem_of_getElem? hx) k hk
    omega
  refine ⟨⟨?_, ?_, ?_⟩, hlen, hEa.2.1, hEa.1⟩
  · intro y hy k hk
    obtain ⟨i, hi⟩ := List.mem_iff_getElem?.1 hy
    obtain ⟨_, x, hx, rfl⟩ := hat i y hi
    obtain ⟨k', hk', rfl⟩ := List.mem_map.1 hk
    have := kid_ge _ x hx k' hk'
    show 0 ≤ k' - (a : Int)
    omega
  · show E (a + 0) - a = _
    rw [List.length_map, hlen, Nat.add_zero]
  · intro i z hz
    rw [List.getElem?_map, Option.map_eq_some_iff] at hz
    obtain ⟨y, hy, rfl⟩ := hz
    obtain ⟨hi, x, hx, rfl⟩ := hat i y hy
    obtain ⟨q1, q2, q3, q4⟩ := h.ends.node _ _ (h.look hx)
    rw [List.length_map] at q2 q4
    have hnest := h.ends.nest _ a (a + i) (Nat.le_refl _) (by omega) (by rw [List.length_map]; exact ha) hi
    rw [List.length_map, hlen]
    have hks : (ndOf (x.mapK (· - (a : Int)))).kids = (ndOf x).kids.map (· - a) := by
      show (x.kids.map (· - (a : Int))).map Int.toNat = (x.kids.map Int.toNat).map (· - a)
      rw [List.map_map, List.map_map]
      refine List.map_congr_left fun k hk => ?_
      simp only [Function.comp]
      have := kid_ge _ x hx k hk
      omega
    refine ⟨by omega, by omega, ?_, ?_⟩
    · rw [hks, List.length_map]
      rcases q3 with q | q | q
      · left; rw [q]; rfl
      · right; left; exact q
      · right; right; exact q
    · rw [hks]
      have := TRow.shift (E := E) (n := l.length) (a := a) (i := a + i) (m := E a) hEa.2.1 (by omega) (by omega) hnest (fun k _ h2 => (h.ends.node k _ (h.look (List.getElem?_eq_getElem h2))).1) q4
      rw [show a + i - a = i by omega, show a + i + 1 - a = i + 1 by omega] at this
      exact this
end
/-- A row's pieces by their numbers: each ends where the next one begins, the last one at the end. -/
theorem TRow.idx {E : Nat → Nat} {P : Nat → Prop} : ∀ {ks : List Nat} {s e : Nat}, TRow (fun k e => P k ∧ e = E k) s ks e → ∀ (j k : Nat), ks[j]? = some k → (∀ k', ks[j + 1]? = some k' → k' = E k) ∧ (ks.length = j + 1 → e = E k) ∧ P k
  | [], s, e, g, j, k, h => by simp at h
  | c :: ks, s, e, ⟨g1, e1, ⟨p1, g2⟩, g3⟩, 0, k, h => by
    simp only [List.getElem?_cons_zero, Option.some.injEq] at h
    subst h g2
    refine ⟨fun k' hk' => ?_, fun hl => ?_, p1⟩
    · rw [List.getElem?_cons_succ] at hk'
      cases ks with
      | nil => simp at hk'
      | cons d ks => simp only [List.getElem?_cons_zero, Option.some.injEq] at hk'; obtain ⟨q, _⟩ := g3; omega
    · have : ks = [] := List.eq_nil_of_length_eq_zero (by simpa using hl)
      subst this
      exact (show E c = e from g3).symm
  | c :: ks, s, e, ⟨g1, e1, g2, g3⟩, j + 1, k, h => by
    rw [List.getElem?_cons_succ] at h
    obtain ⟨q1, q2, q3⟩ := TRow.idx g3 j k h
    exact ⟨fun k' hk' => q1 k' (by rwa [List.getElem?_cons_succ] at hk'), fun hl => q2 (by simpa using hl), q3⟩
theorem TRow.first {T : Nat → Nat → Prop} {ks : List Nat} {s e k : Nat} (h : TRow T s ks e) (hk : ks[0]? = some k) : k = s := by
  cases ks with
  | nil => simp at hk
  | cons c ks => obtain ⟨g, _⟩ := h; simp only [List.getElem?_cons_zero, Option.some.injEq] at hk; omega
section
variable {l : List Gn} {E : Nat → Nat}
theorem GE.lt (h : GE l E) {i : Nat} (hi : i < l.length) : i < E i ∧ E i ≤ l.length := by
  obtain ⟨q1, q2, _⟩ := h.ends.node i _ (h.look (List.getElem?_eq_getElem hi))
  rw [List.length_map] at q2
  exact ⟨q1, q2⟩
theorem GE.row (h : GE l E) {i : Nat} {x : Gn} (hx : l[i]? = some x) : TRow (fun k e => (i < k ∧ k < l.length) ∧ e = E k) (i + 1) (x.kids.map Int.toNat) (E i) := by
  have := (h.ends.node i _ (h.look hx)).2.2.2
  rw [List.length_map] at this
  exact this.imp fun k e ⟨q1, q2, q3⟩ => ⟨⟨q1, q2⟩, q3⟩
theorem GE.kid_nat (h : GE l E) {i j : Nat} {x : Gn} (hx : l[i]? = some x) {k : Int} (hk : x.kids[j]? = some k) : (x.kids.map Int.toNat)[j]? = some k.toNat ∧ 0 ≤ k := by
  refine ⟨by rw [List.getElem?_map, hk]; rfl, h.pos x (List.mem_of_getElem? hx) k (List.mem_of_getElem? hk)⟩
/-- A Kid by its number: it lies in the list, and where its tree ends the next one begins. -/
theorem GE.kid (h : GE l E) {i j : Nat} {x : Gn} (hx : l[i]? = some x) {k : Int} (hk : x.kids[j]? = some k) :
    0 ≤ k ∧ i < k.toNat ∧ k.toNat < l.length ∧ (∀ k', x.kids[j + 1]? = some k' → k' = (E k.toNat : Int)) ∧ (x.kids.length = j + 1 → E i = E k.toNat) ∧ (j = 0 → k.toNat = i + 1) := by
  obtain ⟨q1, q2⟩ := h.kid_nat hx hk
  obtain ⟨r1, r2, r3⟩ := (h.row hx).idx j _ q1
  refine ⟨q2, r3.1, r3.2, fun k' hk' => ?_, fun hl => r2 (by rw [List.length_map]; exact hl), fun hj => by subst hj; exact (h.row hx).first q1⟩
  obtain ⟨s1, s2⟩ := h.kid_nat hx hk'
  have := r1 _ s1
  omega
/-- One step of the way down: a lies below p; c of p's Kids are less than a. Either a is the next one, or a lies below the last of these. -/
theorem GE.down (h : GE l E) {p a c : Nat} {x : Gn} (hx : l[p]? = some x) (hpa : p < a) (haE : a < E p) (hc : c ≤ x.kids.length) (h1 : ∀ t k, t < c → x.kids[t]? = some k → k < (a : Int)) (h2 : ∀ t k, c ≤ t → x.kids[t]? = some k → (a : Int) ≤ k) (hne : x.kids[c]? ≠ some (a : Int)) :
    0 < c ∧ ∃ k : Nat, x.kids[c - 1]? = some (k : Int) ∧ p < k ∧ k < a ∧ k < l.length ∧ a < E k := by
  have hpl : p < l.length := (List.getElem?_eq_some_iff.1 hx).1
  have hk0 : x.kids.length ≠ 0 := by
    intro e
    have e2 : x.kids.map Int.toNat = [] := by rw [List.eq_nil_of_length_eq_zero e]; rfl
    have hr := h.row hx
    rw [e2] at hr
    have : p + 1 = E p := hr
    omega
  have hc0 : 0 < c := by
    rcases Nat.eq_zero_or_pos c with e | e
    · subst e
      have hk := List.getElem?_eq_getElem (show 0 < x.kids.length by omega)
      obtain ⟨q0, q1, q2, _, _, q5⟩ := h.kid hx hk
      have g1 := h2 0 _ (Nat.le_refl _) hk
      have g2 := q5 rfl
      exact absurd (by rw [hk]; congr 1; omega) hne
    · exact e
  refine ⟨hc0, ?_⟩
  have hk := List.getElem?_eq_getElem (show c - 1 < x.kids.length by omega)
  obtain ⟨q0, q1, q2, q3, q4, _⟩ := h.kid hx hk
  have g1 := h1 (c - 1) _ (by omega) hk
  refine ⟨x.kids[c - 1].toNat, by rw [hk]; congr 1; omega, q1, by omega, q2, ?_⟩
  by_cases e : x.kids.length = c
  · have := q4 (by omega)
    omega
  · have hk' := List.getElem?_eq_getElem (show c < x.kids.length by omega)
    have g2 := h2 c _ (Nat.le_refl _) hk'
    have g3 := q3 x.kids[c] (by rw [show c - 1 + 1 = c by omega]; exact hk')
    have g4 : x.kids[c] ≠ (a : Int) := fun e => hne (by rw [hk', e])
    omega
end
section
variable {l : List Gn} {E : Nat → Nat}
end
section
variable {l : List Gn} {E : Nat → Nat}
theorem GE.kid_ge (h : GE l E) {i : Nat} {x : Gn} (hx : l[i]? = some x) : ∀ (j : Nat) (k : Int), x.kids[j]? = some k → ((i + 1 + j : Nat) : Int) ≤ k
  | 0, k, hk => by
    obtain ⟨q0, q1, _⟩ := h.kid hx hk
    omega
  | j + 1, k, hk => by
    have hj : j < x.kids.length := by have := (List.getElem?_eq_some_iff.1 hk).1; omega
    have hk0 := List.getElem?_eq_getElem hj
    have h1 := GE.kid_ge h hx j _ hk0
    obtain ⟨q0, q1, q2, q3, _⟩ := h.kid hx hk0
    have h2 := q3 k hk
    have h3 := (h.lt q2).1
    omega
theorem GE.small (h : GE l E) (hn : l.length ≤ 1000000) : Small l := by
  intro x hx
  obtain ⟨i, hi⟩ := List.mem_iff_getElem?.1 hx
  constructor
  · rcases Nat.eq_zero_or_pos x.kids.length with e | e
    · omega
    · have hk := List.getElem?_eq_getElem (show x.kids.length - 1 < x.kids.length by omega)
      have h1 := h.kid_ge hi _ _ hk
      obtain ⟨q0, q1, q2, _⟩ := h.kid hi hk
      omega
  · intro k hk
    obtain ⟨j, hj⟩ := List.mem_iff_getElem?.1 hk
    obtain ⟨q0, q1, q2, _⟩ := h.kid hi hj
    omega
end
theorem NewG.out {W w' : World} {l : List Gn} {e : Ending} (h : NewG W l e w') : ∃ A cap, e = .returned (.slice A l.length cap) ∧ l.length ≤ cap ∧ cap ≤ 9223372036854775807 ∧ GL w' A l.length cap l ∧ Below W.heap.size W w' := by
  obtain ⟨A, m, cap, P, rfl, h1, h2, h3, h4, h5, h6⟩ := h
  have hg := h3.gl h4
  rw [h5] at hg
  have hl := hg.len
  subst hl
  exact ⟨A, cap, rfl, h1, h2, hg, h6⟩
/-- A tree that was made: a list in memory. -/
structure TreeIn (W : World) (A : Option Addr) (n cap : Nat) (l : List Gn) (E : Nat → Nat) : Prop where
  gl : GL W A n cap l
  ge : GE l E
theorem TreeIn.below {W W' : World} {A : Option Addr} {n cap : Nat} {l : List Gn} {E : Nat → Nat} (h : TreeIn W A n cap l E) (hb : Below W.heap.size W W') : TreeIn W' A n cap l E := ⟨h.gl.below hb, h.ge⟩
theorem TreeIn.sm {W : World} {A : Option Addr} {n cap : Nat} {l : List Gn} {E : Nat → Nat} (h : TreeIn W A n cap l E) (hn : n ≤ 1000000) : Small l := h.ge.small (by rw [h.gl.len]; exact hn)
theorem TreeIn.kl {W : World} {A : Option Addr} {n cap : Nat} {l : List Gn} {E : Nat → Nat} (h : TreeIn W A n cap l E) (hn : n ≤ 1000000) : ∀ x ∈ l, x.kids.length ≤ 1000000 := fun x hx => (h.sm hn x hx).1
theorem lit_gl {V : World} {b : Nat} {P : List GK} {n : Nat} (hn : P.length = n) (hn2 : n ≤ 1000000) (hc : ∀ k, V.cell? ⟨b, k, none⟩ = (gksC P)[k]?) (hk : ∀ (i : Nat) (p : GK), P[i]? = some p → ∃ K, p.2 = .slice K p.1.kids.length p.1.kids.length ∧ p.1.kids.length ≤ 1000000 ∧ (K = none → p.1.kids.length = 0) ∧ RdC V K (ki p.1.kids)) : GL V (some ⟨b, 0, none⟩) n n (glst P) := by
  refine ⟨by simp [glst]; exact hn, Nat.le_refl _, by omega, fun e => (by cases e), fun i x hx => ⟨_, _, rfl, ?_⟩⟩
  simp only [glst, List.getElem?_map, Option.map_eq_some_iff] at hx
  obtain ⟨p, hp, rfl⟩ := hx
  obtain ⟨K, e, h1, h2, h3⟩ := hk i p hp
  refine ⟨K, p.1.kids.length, Nat.le_refl _, by omega, h2, h3, fun j u hu => ?_⟩
  rw [hc, Nat.zero_add, gksC_at P i j p hp (by have := (List.getElem?_eq_some_iff.1 hu).1; exact this)]
  rw [← e] at hu
  exact hu
end Go.Proofs.YtnecapmnbaemiaaGreatDoor
