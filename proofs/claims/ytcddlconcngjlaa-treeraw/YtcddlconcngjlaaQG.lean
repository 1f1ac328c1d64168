/- Chapter 12 (nodes on one line) as Lean functions on lists of numbers. No program. · Where a node ends, and how many nodes there are. No program. · The reader in memory: its own block, the nodes' row, each node's Kids. · What the reader's calls rest on: the bytes that came in, and the reader's state in a later world. · Chapter 12: a node's list as it lies further on in a longer list: its Kids by so many more. No program. · A scalar's value is bytes, and not too long. No program. · inline.Tag, and the document's. · The reader's begins, skip, blanks, add, expect. · The reader's add, expect. · Regions that draw: operations that are not wanted, calls by whatever contract. -/
import Derived.Test.YtcddlconcngjlaaQB
import Derived.Test.YtcddlconcngjlaaQC
import Derived.Test.YtcddlconcngjlaaQF
import Derived.Test.YtcddlconcngjlaaQD
import Derived.Test.YtcddlconcngjlaaQE
import Derived.Test.YtcddlconcngjlaaQA
import Derived.Test.YtcddlconcngjlaaDoor
import Derived.BigQuiet
import Derived.StillTailTactics
import Derived.Deep.LoopGhost
set_option linter.unusedSimpArgs false
set_option linter.unusedVariables false
namespace Go.Proofs.Ytcddlconcngjlaa
open Go.RowKit
set_option linter.unusedVariables false
set_option maxRecDepth 100000
structure Nd where
  kind : Int
  style : Int
  tag : List Int
  anchor : List Int
  value : List Int
  st : Nat
  en : Nat
  hd : Nat
  mr : Nat
  kids : List Nat
def Nd.nil : Nd := ⟨0, 0, [], [], [], 0, 0, 0, 0, []⟩
def u8s (l : List Int) : List UInt8 := l.map fun n => UInt8.ofNat n.toNat
def nums (l : List UInt8) : List Int := l.map fun c => (c.toNat : Int)
theorem u8s_list (l : List Int) : (strOfNums l).toList = u8s l := by rw [Lib.toList_data, strOfNums_data]; rfl
theorem nums_str (l : List UInt8) : strOfNums (nums l) = mk l := by
  apply ByteArray.ext
  apply Array.toList_inj.1
  rw [strOfNums_data]
  show _ = l
  unfold nums
  rw [List.map_map]
  have : ∀ c ∈ l, ((fun n : Int => UInt8.ofNat n.toNat) ∘ fun c : UInt8 => (c.toNat : Int)) c = c := by
    intro c _
    simp only [Function.comp, Int.toNat_natCast]
    exact UInt8.toNat_inj.1 (by rw [UInt8.toNat_ofNat']; have := c.toNat_lt; omega)
  rw [List.map_congr_left this]; simp
/-- How a tag is resolved. -/
def inTag (kind style : Int) (tag value : List Int) : List Int :=
  if tag ≠ [] ∧ tag ≠ [33] then tag
  else if kind = 2 then [33, 33, 115, 101, 113]
  else if kind = 3 then [33, 33, 109, 97, 112]
  else if kind = 4 then []
  else if kind = 0 ∧ tag = [] then [33, 33, 110, 117, 108, 108]
  else if kind = 1 ∧ style = 1 ∧ tag = [] then nums (resF (u8s value))
  else [33, 33, 115, 116, 114]
/-- A scalar at a place, or nothing there: its kind, style, value, size. -/
def inLeaf (b : List Int) (fl : Bool) (s : Nat) : Option (Int × Int × List Int × Nat) :=
  if b.getD s 0 = 34 then (takeD (b.drop s)).map fun x => (1, 3, x.1, x.2)
  else if b.getD s 0 = 39 then (Sg.takeS (b.drop s)).map fun x => (1, 2, x.1, x.2)
  else if startF (b.drop s) fl = true then some (1, 1, (b.drop s).take (lenF (b.drop s) fl), lenF (b.drop s) fl)
  else some (0, 0, [], 0)
/-- Behind blanks. -/
def inBlk (b : List Int) (s : Nat) : Nat := s + blkF (b.drop s)
abbrev InR := Except Int (List Nd × Nat)
abbrev InE := Except Int (List Nat × List Nd × Nat)
/-- A sequence's item. -/
def inItem (child : Nat → Nat → InR) (s base : Nat) : InE :=
  match child s base with
  | .error c => .error c
  | .ok (l, n) => if n = s then .error 2 else .ok ([base], l, n)
def inKey (b : List Int) (s : Nat) : Option (Nd × Nat) :=
  match inLeaf b true s with
  | none => none
  | some (k, st, v, n) => if k = 1 ∧ n ≤ 128 then some (⟨1, st, inTag 1 st [] v, [], v, s, s + n, s, s, []⟩, s + n) else none
def inColon (b : List Int) (s : Nat) : Bool := b.getD s 0 == 58 && (s + 1 == b.length || [32, 44, 125].contains (b.getD (s + 1) 0))
def inVal (l : List Nd) (hd mk : Nat) (less : Bool) : List Nd :=
  match l with
  | [] => []
  | x :: t => { x with hd := hd, mr := mk, st := if less then mk else x.st, en := if less then mk else x.en } :: t
/-- A mapping's key and value. -/
def inPair (child : Nat → Nat → InR) (b : List Int) (s base : Nat) : InE :=
  match inKey b s with
  | none => .error 2
  | some (k, n) =>
    if inColon b (inBlk b n) = true then
      match child (inBlk b (inBlk b n + 1)) (base + 1) with
      | .error c => .error c
      | .ok (l, m) => .ok ([base, base + 1], k :: inVal l s (inBlk b n + 1) (m == inBlk b (inBlk b n + 1)), m)
    else .error 2
/-- Entries up to the closing bracket c. -/
def inLoop (ent : Nat → Nat → InE) (b : List Int) (c : Int) : Nat → Nat → Nat → List Nat → List Nd → InE
  | 0, _, _, _, _ => .error 2
  | g + 1, s, base, ks, bl => match ent s base with
    | .error e => .error e
    | .ok (k, l, n) =>
      if b.getD (inBlk b n) 0 = c then .ok (ks ++ k, bl ++ l, inBlk b n + 1)
      else if b.getD (inBlk b n) 0 = 44 then inLoop ent b c g (inBlk b (inBlk b n + 1)) (base + l.length) (ks ++ k) (bl ++ l)
      else .error 2
/-- A collection, from its opening bracket on. -/
def inColl (ent : Nat → Nat → InE) (b : List Int) (c : Int) (s base : Nat) : InE :=
  if b.getD (inBlk b (s + 1)) 0 = c then .ok ([], [], inBlk b (s + 1) + 1) else inLoop ent b c (b.length + 1) (inBlk b (s + 1)) base [] []
/-- What stands behind a node's props: the node's kind, style, value, Kids; what is below it; where it ends. -/
def inCont (child : Nat → Nat → InR) (deep : Bool) (b : List Int) (fl : Bool) (s base : Nat) : Except Int (Nd × List Nd × Nat) :=
  if b.getD s 0 = 42 then
    (if (Pr.aliasF (b.drop s)).2.2 = true then .ok ({ Nd.nil with kind := 4, value := (Pr.aliasF (b.drop s)).1 }, [], s + (Pr.aliasF (b.drop s)).2.1) else .error 2)
  else if b.getD s 0 = 91 then
    (if deep = true then .error 3 else match inColl (inItem child) b 93 s base with
      | .error e => .error e
      | .ok (ks, l, n) => .ok ({ Nd.nil with kind := 2, style := 7, kids := ks }, l, n))
  else if b.getD s 0 = 123 then
    (if deep = true then .error 3 else match inColl (inPair child b) b 125 s base with
      | .error e => .error e
      | .ok (ks, l, n) => .ok ({ Nd.nil with kind := 3, style := 7, kids := ks }, l, n))
  else match inLeaf b fl s with
    | none => .error 2
    | some (k, st, v, n) => .ok ({ Nd.nil with kind := k, style := st, value := v }, [], s + n)
def inFin (x : Nd) (tag anchor : List Int) (st en : Nat) : Nd := { x with tag := inTag x.kind x.style tag x.value, anchor := anchor, st := st, en := en, hd := st, mr := st }
/-- A node, given its props and what is behind them. -/
def inDone (p : List Int × List Int × Nat × Bool) (s s2 : Nat) : Except Int (Nd × List Nd × Nat) → InR
  | .error e => .error e
  | .ok (x, l, m) =>
    if x.kind = 4 ∧ 0 < p.2.2.1 then .error 2
    else if x.kind = 0 then .ok (inFin x p.1 p.2.1 s (s + p.2.2.1) :: l, s + p.2.2.1)
    else .ok (inFin x p.1 p.2.1 (if p.2.2.1 = 0 then s2 else s) m :: l, m)
def inNodeG (child : Nat → Nat → InR) (deep : Bool) (b : List Int) (fl : Bool) (s base : Nat) : InR :=
  if (Pr.takeP (b.drop s)).2.2.2 = true then
    inDone (Pr.takeP (b.drop s)) s (inBlk b (s + (Pr.takeP (b.drop s)).2.2.1)) (inCont child deep b fl (inBlk b (s + (Pr.takeP (b.drop s)).2.2.1)) (base + 1))
  else .error 2
/-- The node at a place, its number base; f: how much deeper collections may go. -/
def inNode : Nat → List Int → Bool → Nat → Nat → InR
  | 0, b, fl, s, base => inNodeG (fun _ _ => .error 3) true b fl s base
  | f + 1, b, fl, s, base => inNodeG (inNode f b true) false b fl s base
def inText (b : List Int) : Bool := (checkF b).2 == 0 && (!(b.take 3 == [239, 187, 191]) && !b.contains 10)
def inParse (b : List Int) (fl : Bool) : Except Int (List Nd) :=
  if inText b = true then
    match inNode 64 b fl 0 0 with
    | .error e => .error e
    | .ok (l, n) => if n = 0 ∨ n < b.length then .error 2 else .ok l
  else .error 1
theorem getD_lt {b : List Int} {k : Nat} (h : b.getD k 0 ≠ 0) : k < b.length := by
  rcases Nat.lt_or_ge k b.length with h1 | h1
  · exact h1
  · exact absurd (by simp [List.getD, List.getElem?_eq_none h1]) h
theorem blk_ge (b : List Int) (s : Nat) : s ≤ inBlk b s := by unfold inBlk; omega
theorem blk_le {b : List Int} {s : Nat} (h : s ≤ b.length) : inBlk b s ≤ b.length := by
  unfold inBlk; have := blk_len (b.drop s); rw [List.length_drop] at this; omega
theorem takeD_len {zs v : List Int} {n : Nat} (h : takeD zs = some (v, n)) : 2 ≤ n ∧ n ≤ zs.length := by
  unfold takeD dqAt at h
  split at h
  · rename_i h0
    cases hq : dq (zs.drop 1) with
    | none => rw [hq] at h; cases h
    | some x =>
      obtain ⟨v', m⟩ := x
      rw [hq] at h
      simp only [Option.map_some, Option.some.injEq, Prod.mk.injEq] at h
      obtain ⟨h1, h2, _⟩ := dq_len _ _ v' m (Nat.le_refl _) hq
      rw [List.length_drop] at h2
      omega
  · cases h
theorem alias_len {l : List Int} (h : (Pr.aliasF l).2.2 = true) : 1 ≤ (Pr.aliasF l).2.1 ∧ (Pr.aliasF l).2.1 ≤ l.length := by
  unfold Pr.aliasF at h ⊢
  split at h
  · rename_i hc
    rw [if_pos hc]
    simp only [Bool.and_eq_true] at hc
    have h1 := Pr.cut_true 42 l hc.1
    have h2 := (Pr.ltr_len 33 (Pr.cutF 42 l).1).1
    have h3 := congrArg List.length h1
    simp only [List.length_cons] at h3
    simp only []
    omega
  · cases h
theorem goP_len : ∀ (f : Nat) (l : List Int) (i n : Nat) (t a : List Int), n ≤ i → (Pr.goP f l i n t a).2.2.1 ≤ i + l.length := by
  intro f
  induction f with
  | zero => intro l i n t a h; simp only [Pr.goP]; omega
  | succ f ih =>
    intro l i n t a h
    cases hb : Pr.begF l with
    | false => rw [Pr.goP_stop f l i n t a hb]; show n ≤ _; omega
    | true =>
      cases hw : (Pr.withF t a (Pr.wrdF l)).2.2 with
      | false => rw [Pr.goP_bad f l i n t a hb hw]; show 0 ≤ _; omega
      | true =>
        rw [Pr.goP_next f l i n t a hb hw]
        refine Nat.le_trans (ih _ _ _ _ _ (by omega)) ?_
        have h1 := Pr.wrd_len l
        have h2 := blk_len (l.drop (Pr.wrdF l).length)
        simp only [List.length_drop] at h2 ⊢
        omega
theorem takeP_len (l : List Int) : (Pr.takeP l).2.2.1 ≤ l.length := by
  have := goP_len (l.length + 1) l 0 0 [] [] (Nat.le_refl _)
  unfold Pr.takeP; omega
theorem leaf_size {b : List Int} {fl : Bool} {s : Nat} {k st : Int} {v : List Int} {n : Nat} (hs : s ≤ b.length) (h : inLeaf b fl s = some (k, st, v, n)) :
    s + n ≤ b.length ∧ ((k = 0 ∧ st = 0 ∧ v = [] ∧ n = 0) ∨ (k = 1 ∧ 0 < n)) := by
  unfold inLeaf at h
  split at h
  · cases hq : takeD (b.drop s) with
    | none => rw [hq] at h; cases h
    | some x =>
      obtain ⟨v', m⟩ := x
      rw [hq] at h
      simp only [Option.map_some, Option.some.injEq, Prod.mk.injEq] at h
      have := takeD_len hq
      rw [List.length_drop] at this
      exact ⟨by omega, .inr ⟨h.1.symm, by omega⟩⟩
  · split at h
    · cases hq : Sg.takeS (b.drop s) with
      | none => rw [hq] at h; cases h
      | some x =>
        obtain ⟨v', m⟩ := x
        rw [hq] at h
        simp only [Option.map_some, Option.some.injEq, Prod.mk.injEq] at h
        have := Sg.takeS_sgl _ _ _ hq
        rw [List.length_drop] at this
        exact ⟨by omega, .inr ⟨h.1.symm, by omega⟩⟩
    · split at h
      · rename_i hst
        simp only [Option.some.injEq, Prod.mk.injEq] at h
        have h1 := len_le (b.drop s) fl
        have h2 := len_pos (b.drop s) fl
        rw [hst] at h2
        have h3 := of_decide_eq_true h2
        rw [List.length_drop] at h1
        exact ⟨by omega, .inr ⟨h.1.symm, by omega⟩⟩
      · simp only [Option.some.injEq, Prod.mk.injEq] at h
        exact ⟨by omega, .inl ⟨h.1.symm, h.2.1.symm, h.2.2.1.symm, h.2.2.2.symm⟩⟩
theorem key_size {b : List Int} {s : Nat} {x : Nd} {n : Nat} (hs : s ≤ b.length) (h : inKey b s = some (x, n)) : s < n ∧ n ≤ b.length := by
  unfold inKey at h
  cases hl : inLeaf b true s with
  | none => rw [hl] at h; cases h
  | some y =>
    obtain ⟨k, st, v, m⟩ := y
    rw [hl] at h
    simp only [] at h
    split at h
    · rename_i hc
      simp only [Option.some.injEq, Prod.mk.injEq] at h
      obtain ⟨h1, h2⟩ := leaf_size hs hl
      omega
    · cases h
theorem colon_lt {b : List Int} {s : Nat} (h : inColon b s = true) : s < b.length := by
  unfold inColon at h
  simp only [Bool.and_eq_true, beq_iff_eq] at h
  exact getD_lt (by rw [h.1]; decide)
def SizeC (b : List Int) (child : Nat → Nat → InR) : Prop :=
  ∀ s base l n, s ≤ b.length → child s base = .ok (l, n) → s ≤ n ∧ n ≤ b.length ∧ 1 ≤ l.length ∧ l.length ≤ n - s + 1 ∧ (s < n → l.length ≤ n - s)
def SizeE (b : List Int) (ent : Nat → Nat → InE) : Prop :=
  ∀ s base k l n, s ≤ b.length → ent s base = .ok (k, l, n) → s < n ∧ n ≤ b.length ∧ l.length ≤ n - s
theorem val_len (l : List Nd) (h m : Nat) (t : Bool) : (inVal l h m t).length = l.length := by cases l <;> rfl
theorem item_size {b : List Int} {child : Nat → Nat → InR} (h : SizeC b child) : SizeE b (inItem child) := by
  intro s base k l n hs he
  unfold inItem at he
  cases hc : child s base with
  | error e => rw [hc] at he; cases he
  | ok x =>
    obtain ⟨l', n'⟩ := x
    rw [hc] at he
    simp only [] at he
    split at he
    · cases he
    · rename_i hne
      simp only [Except.ok.injEq, Prod.mk.injEq] at he
      obtain ⟨h1, h2, h3, h4, h5⟩ := h s base l' n' hs hc
      obtain ⟨_, rfl, rfl⟩ := he
      exact ⟨by omega, h2, h5 (by omega)⟩
theorem pair_size {b : List Int} {child : Nat → Nat → InR} (h : SizeC b child) : SizeE b (inPair child b) := by
  intro s base k l n hs he
  unfold inPair at he
  cases hk : inKey b s with
  | none => rw [hk] at he; cases he
  | some x =>
    obtain ⟨kx, n0⟩ := x
    rw [hk] at he
    simp only [] at he
    split at he
    · rename_i hcol
      obtain ⟨k1, k2⟩ := key_size hs hk
      have b1 := blk_ge b n0
      have b2 := colon_lt hcol
      have b3 := blk_ge b (inBlk b n0 + 1)
      have b4 := blk_le (b := b) (s := inBlk b n0 + 1) (by omega)
      cases hc : child (inBlk b (inBlk b n0 + 1)) (base + 1) with
      | error e => rw [hc] at he; cases he
      | ok y =>
        obtain ⟨l', m⟩ := y
        rw [hc] at he
        simp only [Except.ok.injEq, Prod.mk.injEq] at he
        obtain ⟨h1, h2, h3, h4, h5⟩ := h _ _ l' m b4 hc
        obtain ⟨_, rfl, rfl⟩ := he
        refine ⟨by omega, h2, ?_⟩
        rw [List.length_cons, val_len]; omega
    · cases he
theorem loop_size {b : List Int} {ent : Nat → Nat → InE} (h : SizeE b ent) {c : Int} (hc0 : c ≠ 0) : ∀ (g s base : Nat) (ks : List Nat) (bl : List Nd) (K : List Nat) (L : List Nd) (n : Nat), s ≤ b.length →
    inLoop ent b c g s base ks bl = .ok (K, L, n) → s < n ∧ n ≤ b.length ∧ L.length ≤ bl.length + (n - s) := by
  intro g
  induction g with
  | zero => intro s base ks bl K L n hs he; cases he
  | succ g ih =>
    intro s base ks bl K L n hs he
    rw [inLoop] at he
    cases hx : ent s base with
    | error e => rw [hx] at he; cases he
    | ok x =>
      obtain ⟨k, l, m⟩ := x
      rw [hx] at he
      simp only [] at he
      obtain ⟨h1, h2, h3⟩ := h s base k l m hs hx
      have b1 := blk_ge b m
      split at he
      · rename_i hc
        have b2 := getD_lt (b := b) (k := inBlk b m) (by rw [hc]; exact hc0)
        simp only [Except.ok.injEq, Prod.mk.injEq] at he
        obtain ⟨_, rfl, rfl⟩ := he
        refine ⟨by omega, by omega, ?_⟩
        rw [List.length_append]; omega
      · split at he
        · rename_i hc
          have b2 := getD_lt (b := b) (k := inBlk b m) (by rw [hc]; decide)
          have b3 := blk_ge b (inBlk b m + 1)
          have b4 := blk_le (b := b) (s := inBlk b m + 1) (by omega)
          obtain ⟨g1, g2, g3⟩ := ih _ _ _ _ K L n b4 he
          refine ⟨by omega, g2, ?_⟩
          rw [List.length_append] at g3; omega
        · cases he
theorem coll_size {b : List Int} {ent : Nat → Nat → InE} (h : SizeE b ent) {c : Int} (hc0 : c ≠ 0) {s base : Nat} {K : List Nat} {L : List Nd} {n : Nat} (hs : s < b.length)
    (he : inColl ent b c s base = .ok (K, L, n)) : s + 1 < n ∧ n ≤ b.length ∧ L.length ≤ n - (s + 1) := by
  unfold inColl at he
  have b1 := blk_ge b (s + 1)
  have b2 := blk_le (b := b) (s := s + 1) (by omega)
  split at he
  · rename_i hc
    have b3 := getD_lt (b := b) (k := inBlk b (s + 1)) (by rw [hc]; exact hc0)
    simp only [Except.ok.injEq, Prod.mk.injEq] at he
    obtain ⟨_, rfl, rfl⟩ := he
    exact ⟨by omega, by omega, by simp⟩
  · obtain ⟨h1, h2, h3⟩ := loop_size h hc0 _ _ _ _ _ K L n b2 he
    simp only [List.length_nil] at h3
    exact ⟨by omega, h2, by omega⟩
theorem cont_size {b : List Int} {child : Nat → Nat → InR} (h : SizeC b child) {deep fl : Bool} {s base : Nat} {x : Nd} {l : List Nd} {n : Nat} (hs : s ≤ b.length) (he : inCont child deep b fl s base = .ok (x, l, n)) :
    s ≤ n ∧ n ≤ b.length ∧ (x.kind = 0 → n = s ∧ l = []) ∧ (x.kind ≠ 0 → 1 + l.length ≤ n - s) ∧ l.length ≤ n - s := by
  unfold inCont at he
  split at he
  · split at he
    · rename_i ha
      have := alias_len ha
      rw [List.length_drop] at this
      simp only [Except.ok.injEq, Prod.mk.injEq] at he
      obtain ⟨rfl, rfl, rfl⟩ := he
      refine ⟨by omega, by omega, fun hk => by simp at hk, fun _ => by simp only [List.length_nil]; omega, by simp⟩
    · cases he
  · split at he
    · rename_i h91
      have hlt := getD_lt (b := b) (k := s) (by rw [h91]; decide)
      split at he
      · cases he
      · cases hc : inColl (inItem child) b 93 s base with
        | error e => rw [hc] at he; cases he
        | ok y =>
          obtain ⟨ks, l', n'⟩ := y
          rw [hc] at he
          simp only [Except.ok.injEq, Prod.mk.injEq] at he
          obtain ⟨rfl, rfl, rfl⟩ := he
          have := coll_size (item_size h) (by decide) hlt hc
          refine ⟨by omega, by omega, fun hk => by simp at hk, fun _ => by omega, by omega⟩
    · split at he
      · rename_i h123
        have hlt := getD_lt (b := b) (k := s) (by rw [h123]; decide)
        split at he
        · cases he
        · cases hc : inColl (inPair child b) b 125 s base with
          | error e => rw [hc] at he; cases he
          | ok y =>
            obtain ⟨ks, l', n'⟩ := y
            rw [hc] at he
            simp only [Except.ok.injEq, Prod.mk.injEq] at he
            obtain ⟨rfl, rfl, rfl⟩ := he
            have := coll_size (pair_size h) (by decide) hlt hc
            refine ⟨by omega, by omega, fun hk => by simp at hk, fun _ => by omega, by omega⟩
      · cases hl : inLeaf b fl s with
        | none => rw [hl] at he; cases he
        | some y =>
          obtain ⟨k, st, v, m⟩ := y
          rw [hl] at he
          simp only [Except.ok.injEq, Prod.mk.injEq] at he
          obtain ⟨rfl, rfl, rfl⟩ := he
          obtain ⟨h1, h2⟩ := leaf_size hs hl
          refine ⟨by omega, by omega, fun hk => ⟨?_, rfl⟩, fun hk => ?_, by simp⟩
          · rcases h2 with h2 | h2
            · omega
            · exfalso; have : k = 0 := hk; omega
          · rcases h2 with h2 | h2
            · exact absurd h2.1 hk
            · simp only [List.length_nil]; omega
theorem nodeG_size {b : List Int} {child : Nat → Nat → InR} (h : SizeC b child) (deep fl : Bool) : SizeC b (inNodeG child deep b fl) := by
  intro s base l n hs he
  unfold inNodeG at he
  have hp := takeP_len (b.drop s)
  rw [List.length_drop] at hp
  split at he
  · generalize hq : Pr.takeP (b.drop s) = p at *
    obtain ⟨t, a, m, ok⟩ := p
    simp only [] at he hp
    have b1 := blk_ge b (s + m)
    have b2 := blk_le (b := b) (s := s + m) (by omega)
    cases hc : inCont child deep b fl (inBlk b (s + m)) (base + 1) with
    | error e => rw [hc] at he; cases he
    | ok y =>
      obtain ⟨x, l', n'⟩ := y
      rw [hc] at he
      obtain ⟨h1, h2, h3, h4, h5⟩ := cont_size h b2 hc
      simp only [inDone] at he
      split at he
      · cases he
      · split at he
        · rename_i hk
          simp only [Except.ok.injEq, Prod.mk.injEq] at he
          obtain ⟨rfl, rfl⟩ := he
          rw [(h3 hk).2]
          simp only [List.length_cons, List.length_nil]
          omega
        · rename_i hk
          simp only [Except.ok.injEq, Prod.mk.injEq] at he
          obtain ⟨rfl, rfl⟩ := he
          have := h4 hk
          simp only [List.length_cons]
          omega
  · cases he
theorem node_size (b : List Int) : ∀ (f : Nat) (fl : Bool), SizeC b (inNode f b fl) := by
  intro f
  induction f with
  | zero => intro fl; exact nodeG_size (fun s base l n _ h => by cases h) true fl
  | succ f ih => intro fl; exact nodeG_size (ih true) false fl
abbrev NK := Nd × Value
def ndC (p : NK) : List Value := [.int .i64 p.1.kind, .int .i64 p.1.style, .string (strOfNums p.1.tag), .string (strOfNums p.1.anchor), .string (strOfNums p.1.value), .int .i64 (p.1.st : Int), .int .i64 (p.1.en : Int), .int .i64 (p.1.hd : Int), .int .i64 (p.1.mr : Int), p.2]
def ndsC (P : List NK) : List Value := P.flatMap ndC
def kidC (l : List Nat) : List Value := l.map fun n => .int .i64 ((n : Nat) : Int)
theorem ndC_len (p : NK) : (ndC p).length = 10 := rfl
theorem ndsC_cons (p : NK) (t : List NK) : ndsC (p :: t) = ndC p ++ ndsC t := List.flatMap_cons
theorem ndsC_app (P Q : List NK) : ndsC (P ++ Q) = ndsC P ++ ndsC Q := List.flatMap_append
theorem ndsC_len : ∀ P : List NK, (ndsC P).length = P.length * 10
  | [] => rfl
  | p :: t => by rw [ndsC_cons, List.length_append, ndsC_len t, ndC_len, List.length_cons]; omega
theorem ndsC_at : ∀ (P : List NK) (i j : Nat) (p : NK), P[i]? = some p → j < 10 → (ndsC P)[i * 10 + j]? = (ndC p)[j]?
  | [], i, j, p, h, _ => by simp at h
  | q :: t, 0, j, p, h, hj => by
    simp at h; subst h
    rw [ndsC_cons, List.getElem?_append_left (by rw [ndC_len]; omega)]; simp
  | q :: t, i + 1, j, p, h, hj => by
    simp at h
    rw [ndsC_cons, List.getElem?_append_right (by rw [ndC_len]; omega), ndC_len, show (i + 1) * 10 + j - 10 = i * 10 + j by omega]
    exact ndsC_at t i j p h hj
theorem ndsC_set : ∀ (P : List NK) (i j : Nat) (p p' : NK) (u : Value), P[i]? = some p → j < 10 → ndC p' = (ndC p).set j u → (ndsC P).set (i * 10 + j) u = ndsC (P.set i p')
  | [], i, j, p, p', u, h, _, _ => by simp at h
  | q :: t, 0, j, p, p', u, h, hj, hp => by
    simp at h; subst h
    rw [ndsC_cons, List.set_append_left _ _ (by rw [ndC_len]; omega), List.set_cons_zero, ndsC_cons, hp]; simp
  | q :: t, i + 1, j, p, p', u, h, hj, hp => by
    simp at h
    rw [ndsC_cons, List.set_append_right _ _ (by rw [ndC_len]; omega), ndC_len, show (i + 1) * 10 + j - 10 = i * 10 + j by omega, ndsC_set t i j p p' u h hj hp, List.set_cons_succ, ndsC_cons]
theorem grown_of_below {W W' : World} (h : Below W.heap.size W W') (row : Option Nat) : W.grownBy W' row := ⟨h.os, h.tape, h.output, h.size, fun k hk _ => h.block k hk⟩
theorem grown_store (W : World) (g j : Nat) (u : Value) : W.grownBy (W.setCell ⟨g, j, none⟩ u) (some g) := ⟨rfl, rfl, rfl, by simp [World.setCell], fun k _ hk => Below.heap_setCell _ _ _ _ (fun e => hk (by simp [e]))⟩
theorem own_kept {w w' : World} {base : Nat} {e : TypeId} {size : Nat} {v : Value} {n : Nat} {xs : List Value} {row : Option Nat} (h : w.ownsRow base e size v n xs) (hg : w.grownBy w' row) (hne : ∀ k, row = some k → v.ownBlock ≠ some k) : w'.ownsRow base e size v n xs := by
  refine h.kept hg ?_
  cases row with
  | none => cases hv : v.ownBlock <;> simp
  | some k => exact .inr (hne k rfl)
theorem set_look {P : List NK} {i q : Nat} {p p' y : NK} (hp : P[i]? = some p) (hy : (P.set i p')[q]? = some y) : (q = i ∧ y = p') ∨ (q ≠ i ∧ P[q]? = some y) := by
  have hi := (List.getElem?_eq_some_iff.1 hp).1
  by_cases hq : i = q
  · subst hq
    rw [List.getElem?_set_self hi] at hy
    injection hy with hy
    exact .inl ⟨rfl, hy.symm⟩
  · rw [List.getElem?_set_ne hq] at hy
    exact .inr ⟨fun e => hq e.symm, hy⟩
theorem snoc_look {P : List NK} {q : Nat} {x y : NK} (hy : (P ++ [x])[q]? = some y) : (q = P.length ∧ y = x) ∨ (q < P.length ∧ P[q]? = some y) := by
  rcases Nat.lt_trichotomy q P.length with h | h | h
  · rw [List.getElem?_append_left h] at hy; exact .inr ⟨h, hy⟩
  · subst h; simp at hy; exact .inl ⟨rfl, hy.symm⟩
  · rw [List.getElem?_eq_none (by simp; omega)] at hy; cases hy
/-- The nodes' row, and each node's Kids, all in memory of our own, each in a block of its own. -/
structure Nds (B : Nat) (W : World) (v : Value) (P : List NK) : Prop where
  row : W.ownsRow B 41 10 v P.length (ndsC P)
  kid : ∀ (i : Nat) (p : NK), P[i]? = some p → W.ownsRow B 3 1 p.2 p.1.kids.length (kidC p.1.kids)
  apart : ∀ (i j : Nat) (p q : NK) (k : Nat), P[i]? = some p → P[j]? = some q → i ≠ j → p.2.ownBlock = some k → q.2.ownBlock ≠ some k
  off : ∀ (i : Nat) (p : NK) (k : Nat), P[i]? = some p → p.2.ownBlock = some k → v.ownBlock ≠ some k
section
variable {B : Nat} {W W' : World} {v : Value} {P : List NK}
theorem Nds.nil (B : Nat) (W : World) : Nds B W (.slice none 0 0) [] := ⟨own_nil W B 10 _, fun i p h => by simp at h, fun i j p q k h => by simp at h, fun i p k h => by simp at h⟩
theorem Nds.keep (h : Nds B W v P) {row : Option Nat} (hg : W.grownBy W' row) (hv : ∀ k, row = some k → v.ownBlock ≠ some k) (hk : ∀ (i : Nat) (p : NK) (k : Nat), P[i]? = some p → row = some k → p.2.ownBlock ≠ some k) : Nds B W' v P :=
  ⟨own_kept h.row hg hv, fun i p hp => own_kept (h.kid i p hp) hg (fun k hr => hk i p k hp hr), h.apart, h.off⟩
theorem Nds.below (h : Nds B W v P) (hb : Below W.heap.size W W') : Nds B W' v P := h.keep (grown_of_below hb none) (fun k hk => by cases hk) (fun i p k _ hk => by cases hk)
theorem Nds.blockB (h : Nds B W v P) {k : Nat} (hk : v.ownBlock = some k) : B ≤ k ∧ k < W.heap.size := h.row.lt k hk
theorem Nds.kidB (h : Nds B W v P) {i : Nat} {p : NK} (hp : P[i]? = some p) {k : Nat} (hk : p.2.ownBlock = some k) : B ≤ k ∧ k < W.heap.size := (h.kid i p hp).lt k hk
/-- The row has a block. -/
theorem Nds.form (h : Nds B W v P) (h0 : 0 < P.length) : ∃ g cap, v = .slice (some ⟨g, 0, none⟩) P.length cap ∧ P.length ≤ cap ∧ cap ≤ 9223372036854775807 ∧ B ≤ g ∧ g < W.heap.size := by
  rcases h.row.2 with ⟨_, h1⟩ | ⟨g, cap, cur, hv, hb, hg, hnc, hm, _⟩
  · omega
  · exact ⟨g, cap, hv, hnc, by unfold maxLen at hm; omega, hb, (Array.getElem?_eq_some_iff.1 hg).1⟩
end
section
variable {B : Nat} {W W' : World} {P : List NK} {g cap : Nat}
theorem Nds.cell (h : Nds B W (.slice (some ⟨g, 0, none⟩) P.length cap) P) {i : Nat} {p : NK} (hp : P[i]? = some p) (j : Nat) (u : Value) (hu : (ndC p)[j]? = some u) : W.cell? ⟨g, i * 10 + j, none⟩ = some u := by
  have hi := (List.getElem?_eq_some_iff.1 hp).1
  have hj : j < 10 := by have := (List.getElem?_eq_some_iff.1 hu).1; rwa [ndC_len] at this
  rw [h.row.cellAt _ (by omega), ndsC_at P i j p hp hj, hu]
theorem Nds.frozen (h : Nds B W (.slice (some ⟨g, 0, none⟩) P.length cap) P) (j : Nat) : W.frozen? ⟨g, j, none⟩ = false := h.row.frozenAt j
/-- A cell of a node, other than its Kids, stored. -/
theorem Nds.set (h : Nds B W (.slice (some ⟨g, 0, none⟩) P.length cap) P) {i : Nat} {p p' : NK} (hp : P[i]? = some p) (j : Nat) (hj : j < 10) (u : Value) (hc : ndC p' = (ndC p).set j u) (h2 : p'.2 = p.2) (h3 : p'.1.kids = p.1.kids) :
    Nds B (W.setCell ⟨g, i * 10 + j, none⟩ u) (.slice (some ⟨g, 0, none⟩) (P.set i p').length cap) (P.set i p') := by
  have hg := grown_store W g (i * 10 + j) u
  have hi := (List.getElem?_eq_some_iff.1 hp).1
  have look : ∀ (q : Nat) (y : NK), (P.set i p')[q]? = some y → ∃ x, P[q]? = some x ∧ y.2 = x.2 ∧ y.1.kids = x.1.kids := by
    intro q y hy
    rcases set_look hp hy with ⟨rfl, rfl⟩ | ⟨_, hy⟩
    · exact ⟨p, hp, h2, h3⟩
    · exact ⟨y, hy, rfl, rfl⟩
  refine ⟨?_, ?_, ?_, ?_⟩
  · rw [List.length_set, ← ndsC_set P i j p p' u hp hj hc]
    exact (h.row.stored _ u).1
  · intro q y hy
    obtain ⟨x, hx, e1, e2⟩ := look q y hy
    rw [e1, e2]
    exact own_kept (h.kid q x hx) hg (fun k hk hx2 => by
      injection hk with hk
      subst hk
      exact h.off q x _ hx hx2 rfl)
  · intro q r y z k hy hz hne hk
    obtain ⟨x, hx, e1, _⟩ := look q y hy
    obtain ⟨x', hx', e1', _⟩ := look r z hz
    rw [e1] at hk
    rw [e1']
    exact h.apart q r x x' k hx hx' hne hk
  · intro q y k hy hk
    obtain ⟨x, hx, e1, _⟩ := look q y hy
    rw [e1] at hk
    exact h.off q x k hx hk
end
section
variable {B : Nat} {W W' : World} {R : Nat} {A : Option Addr} {n c s s' : Nat} {v : Value} {P : List NK}
end
section
variable {B : Nat} {W W' : World} {R : Nat} {A : Option Addr} {n c s s' : Nat} {P : List NK} {g cap : Nat}
end
theorem node_info : (Try.prog.info? 41).map (fun i => (i.zero, i.size, i.bytes)) = some (some (.agg #[.int .i64 0, .int .i64 0, .string ⟨#[]⟩, .string ⟨#[]⟩, .string ⟨#[]⟩, .int .i64 0, .int .i64 0, .int .i64 0, .int .i64 0, .slice none 0 0]), 10, 120) := by kernel_rfl
theorem int_info : (Try.prog.info? 3).map (fun i => (i.zero, i.size, i.bytes)) = some (some (.int .i64 0), 1, 8) := by kernel_rfl
section
variable {B : Nat} {W W' : World} {R : Nat} {A : Option Addr} {n c s : Nat} {v : Value} {P : List NK}
end
section
variable {B : Nat} {W W' : World} {R : Nat} {A : Option Addr} {n c s : Nat} {P : List NK} {g cap : Nat}
end
/-- Blocks of our own that the reader has nothing to do with, and what they hold. -/
abbrev Fr := List (Nat × Obj)
def lst (P : List NK) : List Nd := P.map Prod.fst
theorem lst_len (P : List NK) : (lst P).length = P.length := by simp [lst]
theorem lst_app (P Q : List NK) : lst (P ++ Q) = lst P ++ lst Q := by simp [lst]
theorem lst_at {P : List NK} {i : Nat} {x : Nd} (h : (lst P)[i]? = some x) : ∃ k, P[i]? = some (x, k) := by
  simp only [lst, List.getElem?_map, Option.map_eq_some_iff] at h
  obtain ⟨⟨y, k⟩, h1, rfl⟩ := h
  exact ⟨k, h1⟩
section
variable {w : World} {F : Fr} {R : Nat} {A : Option Addr} {n c : Nat} {W W' : World} {s : Nat} {v : Value} {P : List NK} {b : List Int}
end
def mvN (d : Nat) (x : Nd) : Nd := { x with kids := x.kids.map (· + d) }
def mvL (d : Nat) (l : List Nd) : List Nd := l.map (mvN d)
def mvR (d : Nat) : InR → InR
  | .error e => .error e
  | .ok (l, n) => .ok (mvL d l, n)
def mvE (d : Nat) : InE → InE
  | .error e => .error e
  | .ok (ks, l, n) => .ok (ks.map (· + d), mvL d l, n)
def MvC (child : Nat → Nat → InR) : Prop := ∀ s base d, child s (base + d) = mvR d (child s base)
def MvE (ent : Nat → Nat → InE) : Prop := ∀ s base d, ent s (base + d) = mvE d (ent s base)
theorem mvL_len (d : Nat) (l : List Nd) : (mvL d l).length = l.length := by simp [mvL]
theorem mvL_app (d : Nat) (l m : List Nd) : mvL d (l ++ m) = mvL d l ++ mvL d m := by simp [mvL]
theorem mvN_nil (d : Nat) (x : Nd) (h : x.kids = []) : mvN d x = x := by cases x; simp only at h; subst h; rfl
theorem mv_item {child : Nat → Nat → InR} (h : MvC child) : MvE (inItem child) := by
  intro s base d
  unfold inItem
  rw [h]
  cases child s base with
  | error e => rfl
  | ok y =>
    obtain ⟨l, n⟩ := y
    simp only [mvR]
    by_cases hn : n = s
    · rw [if_pos hn, if_pos hn]; rfl
    · rw [if_neg hn, if_neg hn]; rfl
theorem mv_val (d : Nat) (l : List Nd) (hd mk : Nat) (less : Bool) : inVal (mvL d l) hd mk less = mvL d (inVal l hd mk less) := by
  cases l <;> rfl
theorem key_kids {b : List Int} {s : Nat} {k : Nd} {n : Nat} (h : inKey b s = some (k, n)) : k.kids = [] := by
  unfold inKey at h
  split at h
  · cases h
  · split at h
    · injection h with h; injection h with h1 h2; rw [← h1]
    · cases h
theorem mv_pair {child : Nat → Nat → InR} (h : MvC child) (b : List Int) : MvE (inPair child b) := by
  intro s base d
  unfold inPair
  cases hk : inKey b s with
  | none => rfl
  | some y =>
    obtain ⟨k, n⟩ := y
    dsimp only
    by_cases hc : inColon b (inBlk b n) = true
    · rw [if_pos hc, if_pos hc, show base + d + 1 = base + 1 + d by omega, h]
      cases child (inBlk b (inBlk b n + 1)) (base + 1) with
      | error e => rfl
      | ok z =>
        obtain ⟨l, m⟩ := z
        simp only [mvR, mvE, mv_val]
        rw [show mvL d (k :: inVal l s (inBlk b n + 1) (m == inBlk b (inBlk b n + 1))) = k :: mvL d (inVal l s (inBlk b n + 1) (m == inBlk b (inBlk b n + 1))) by simp [mvL, mvN_nil d k (key_kids hk)]]
        simp
    · rw [if_neg hc, if_neg hc]; rfl
theorem mv_loop {ent : Nat → Nat → InE} (h : MvE ent) (b : List Int) (c : Int) : ∀ (g s base : Nat) (ks : List Nat) (bl : List Nd) (d : Nat), inLoop ent b c g s (base + d) (ks.map (· + d)) (mvL d bl) = mvE d (inLoop ent b c g s base ks bl)
  | 0, _, _, _, _, _ => rfl
  | g + 1, s, base, ks, bl, d => by
    unfold inLoop
    rw [h]
    cases ent s base with
    | error e => rfl
    | ok y =>
      obtain ⟨k, l, n⟩ := y
      simp only [mvE]
      by_cases h1 : b.getD (inBlk b n) 0 = c
      · rw [if_pos h1, if_pos h1]
        simp [mvL_app]
      · rw [if_neg h1, if_neg h1]
        by_cases h2 : b.getD (inBlk b n) 0 = 44
        · rw [if_pos h2, if_pos h2, mvL_len, ← List.map_append, ← mvL_app, show base + d + l.length = base + l.length + d by omega]
          exact mv_loop h b c g _ _ _ _ d
        · rw [if_neg h2, if_neg h2]
theorem mv_coll {ent : Nat → Nat → InE} (h : MvE ent) (b : List Int) (c : Int) : MvE (inColl ent b c) := by
  intro s base d
  unfold inColl
  split
  · rfl
  · exact mv_loop h b c _ _ base [] [] d
def mvC (d : Nat) : Except Int (Nd × List Nd × Nat) → Except Int (Nd × List Nd × Nat)
  | .error e => .error e
  | .ok (x, l, n) => .ok (mvN d x, mvL d l, n)
theorem mv_cont {child : Nat → Nat → InR} (h : MvC child) (deep : Bool) (b : List Int) (fl : Bool) (s base d : Nat) : inCont child deep b fl s (base + d) = mvC d (inCont child deep b fl s base) := by
  unfold inCont
  split
  · split <;> rfl
  · split
    · split
      · rfl
      · rw [mv_coll (mv_item h) b 93 s base d]
        cases inColl (inItem child) b 93 s base with
        | error e => rfl
        | ok y => rfl
    · split
      · split
        · rfl
        · rw [mv_coll (mv_pair h b) b 125 s base d]
          cases inColl (inPair child b) b 125 s base with
          | error e => rfl
          | ok y => rfl
      · cases inLeaf b fl s with
        | none => rfl
        | some y => rfl
theorem mv_done (p : List Int × List Int × Nat × Bool) (s s2 d : Nat) (r : Except Int (Nd × List Nd × Nat)) : inDone p s s2 (mvC d r) = mvR d (inDone p s s2 r) := by
  cases r with
  | error e => rfl
  | ok y =>
    obtain ⟨x, l, m⟩ := y
    simp only [mvC, inDone]
    have e1 : (mvN d x).kind = x.kind := rfl
    rw [e1]
    split
    · rfl
    · split <;> rfl
theorem mv_nodeG {child : Nat → Nat → InR} (h : MvC child) (deep : Bool) (b : List Int) (fl : Bool) (s base d : Nat) : inNodeG child deep b fl s (base + d) = mvR d (inNodeG child deep b fl s base) := by
  unfold inNodeG
  split
  · rw [show base + d + 1 = base + 1 + d by omega, mv_cont h, mv_done]
  · rfl
/-- The numbers of a node's list begin with its own. -/
theorem mv_node : ∀ (f : Nat) (b : List Int) (fl : Bool), MvC (inNode f b fl)
  | 0, b, fl => fun s base d => mv_nodeG (fun _ _ _ => rfl) true b fl s base d
  | f + 1, b, fl => fun s base d => mv_nodeG (mv_node f b true) false b fl s base d
theorem node_base (f : Nat) (b : List Int) (fl : Bool) (s base : Nat) : inNode f b fl s base = mvR base (inNode f b fl s 0) := by
  have := mv_node f b fl s 0 base
  rwa [Nat.zero_add] at this
theorem sgl_len : ∀ (n : Nat) (l : List Int), l.length ≤ n → (Sg.sgl l).length ≤ l.length := by
  intro n
  induction n with
  | zero =>
    intro l h
    obtain rfl : l = [] := List.eq_nil_of_length_eq_zero (by omega)
    exact Nat.le_refl _
  | succ n ih =>
    intro l h
    cases l with
    | nil => exact Nat.le_refl _
    | cons c t =>
      by_cases h39 : c = 39
      · subst h39
        cases t with
        | nil => simp [Sg.sgl]
        | cons d u =>
          by_cases hd : d = 39
          · subst hd
            rw [Sg.sgl_two]
            have := ih u (by simp at h; omega)
            simp; omega
          · rw [Sg.sgl_one d u hd]
            have := ih (d :: u) (by simp at h ⊢; omega)
            simp at this ⊢; omega
      · rw [Sg.sgl_ne c t h39]
        have := ih t (by simp at h; omega)
        simp; omega
theorem takeD_byte {zs v : List Int} {n : Nat} (hb : Byte zs) (h : takeD zs = some (v, n)) : Byte v ∧ v.length ≤ 4 * zs.length := by
  unfold takeD dqAt at h
  split at h
  · cases hq : dq (zs.drop 1) with
    | none => rw [hq] at h; cases h
    | some x =>
      obtain ⟨v', m⟩ := x
      rw [hq] at h
      simp only [Option.map_some, List.nil_append, Option.some.injEq, Prod.mk.injEq] at h
      obtain ⟨h1, h2, h3, h4⟩ := dq_len _ _ v' m (Nat.le_refl _) hq
      rw [List.length_drop] at h2
      rw [← h.1]
      exact ⟨h4 (hb.drop 1), by omega⟩
  · cases h
theorem leaf_byte {b : List Int} (hb : Byte b) {fl : Bool} {s : Nat} {k st : Int} {v : List Int} {n : Nat} (h : inLeaf b fl s = some (k, st, v, n)) : Byte v ∧ v.length ≤ 4 * b.length := by
  have hd := hb.drop s
  have hl : (b.drop s).length ≤ b.length := by rw [List.length_drop]; omega
  unfold inLeaf at h
  split at h
  · cases hq : takeD (b.drop s) with
    | none => rw [hq] at h; cases h
    | some x =>
      obtain ⟨v', m⟩ := x
      rw [hq] at h
      simp only [Option.map_some, Option.some.injEq, Prod.mk.injEq] at h
      have := takeD_byte hd hq
      rw [← h.2.2.1]
      exact ⟨this.1, by omega⟩
  · split at h
    · cases hq : Sg.takeS (b.drop s) with
      | none => rw [hq] at h; cases h
      | some x =>
        obtain ⟨v', m⟩ := x
        rw [hq] at h
        simp only [Option.map_some, Option.some.injEq, Prod.mk.injEq] at h
        obtain ⟨g1, g2, g3⟩ := Sg.takeS_sgl _ _ _ hq
        rw [← h.2.2.1, g3]
        have hy : Byte (((b.drop s).drop 1).take (m - 1 - 1)) := (hd.drop 1).take _
        have hl2 := sgl_len _ (((b.drop s).drop 1).take (m - 1 - 1)) (Nat.le_refl _)
        rw [List.length_take, List.length_drop] at hl2
        exact ⟨Sg.sgl_byte _ _ (Nat.le_refl _) hy, by omega⟩
    · split at h
      · simp only [Option.some.injEq, Prod.mk.injEq] at h
        rw [← h.2.2.1]
        exact ⟨hd.take _, by rw [List.length_take]; omega⟩
      · simp only [Option.some.injEq, Prod.mk.injEq] at h
        rw [← h.2.2.1]
        exact ⟨fun z hz => (by cases hz), by simp⟩
theorem u8s_byt (v : ByteArray) : u8s (byt v) = v.toList := by rw [← u8s_list, strOfNums_byt]
set_option maxHeartbeats 2000000 in
theorem rtag_at {w W : World} (hb : Below w.heap.size w W) (kind style : Int) (t v : ByteArray) (hv : v.size ≤ 1000000) (r : ByteArray) (h : strOfNums (inTag kind style (byt t) (byt v)) = r) :
    Calls Try.prog 90 #[.int .i64 kind, .int .i64 style, .string t, .string v] W (TxtP r w) := by
  have HB := Lib.hid hb
  have HH := Lib.hid h
  clear hb h
  have i1 : (t.toList.isEmpty = true) ↔ byt t = [] := by rw [Pr.empty_byt, List.isEmpty_iff]
  have i2 : ((t.toList == [33]) = true) ↔ byt t = [33] := by
    rw [show ([33] : List UInt8) = (⟨#[33]⟩ : ByteArray).toList from (mk_list [33]).symm, Pr.list_byt, beq_iff_eq]; rfl
  by_cases q1 : byt t = []
  · have e1 : t.toList.isEmpty = true := i1.2 q1
    have e1' : t.toList = [] := List.isEmpty_iff.1 e1
    have hT : inTag kind style (byt t) (byt v) = if kind = 2 then [33, 33, 115, 101, 113] else if kind = 3 then [33, 33, 109, 97, 112] else if kind = 4 then [] else if kind = 0 then [33, 33, 110, 117, 108, 108] else if kind = 1 ∧ style = 1 then nums (resF v.toList) else [33, 33, 115, 116, 114] := by
      rw [← u8s_byt]; unfold inTag; rw [q1]; simp
    rw [hT] at HH
    clear hT i1 i2 q1
    by_cases k2 : kind = 2
    · subst k2
      obtain rfl : r = ⟨#[33, 33, 115, 101, 113]⟩ := HH.out.symm
      clear HH
      go_enter Try.func90, Try.ntmps90
      go_wp2_with fail
      go_ret
      exact ⟨rfl, HB.out⟩
    · rw [if_neg k2] at HH
      by_cases k3 : kind = 3
      · subst k3
        obtain rfl : r = ⟨#[33, 33, 109, 97, 112]⟩ := HH.out.symm
        clear HH
        go_enter Try.func90, Try.ntmps90
        go_wp2_with fail
        go_ret
        exact ⟨rfl, HB.out⟩
      · rw [if_neg k3] at HH
        by_cases k4 : kind = 4
        · subst k4
          obtain rfl : r = ⟨#[]⟩ := HH.out.symm
          clear HH
          go_enter Try.func90, Try.ntmps90
          go_wp2_with fail
          go_ret
          exact ⟨rfl, HB.out⟩
        · rw [if_neg k4] at HH
          by_cases k0 : kind = 0
          · subst k0
            obtain rfl : r = ⟨#[33, 33, 110, 117, 108, 108]⟩ := HH.out.symm
            clear HH
            go_enter Try.func90, Try.ntmps90
            go_wp2_with fail
            go_ret
            exact ⟨rfl, HB.out⟩
          · rw [if_neg k0] at HH
            have d2 : (kind == 2) = false := beq_eq_false_iff_ne.2 k2
            have d3 : (kind == 3) = false := beq_eq_false_iff_ne.2 k3
            have d4 : (kind == 4) = false := beq_eq_false_iff_ne.2 k4
            have d0 : (kind == 0) = false := beq_eq_false_iff_ne.2 k0
            by_cases k1 : kind = 1 ∧ style = 1
            · rw [if_pos k1] at HH
              obtain ⟨rfl, rfl⟩ := k1
              have HRS := Lib.hid (rres_at HB.out v (by omega) r (by rw [← HH.out, nums_str, mk_list]))
              clear HH k2 k3 k4 k0 d2 d3 d4 d0
              go_enter Try.func90, Try.ntmps90
              go_wp2_with fail
              refine HRS.out.mono ?_
              rintro e w1 ⟨rfl, hb1⟩
              have HB1 := Lib.hid hb1
              clear hb1
              go_wp2_with fail
              go_ret
              exact ⟨rfl, HB1.out⟩
            · rw [if_neg k1] at HH
              obtain rfl : r = ⟨#[33, 33, 115, 116, 114]⟩ := HH.out.symm
              clear HH
              by_cases k5 : kind = 1
              · subst k5
                have ds : (style == 1) = false := beq_eq_false_iff_ne.2 (fun e => k1 ⟨rfl, e⟩)
                clear k1 k2 k3 k4 k0 d2 d3 d4 d0
                go_enter Try.func90, Try.ntmps90
                go_wp2_with fail
                go_ret
                exact ⟨rfl, HB.out⟩
              · have d1 : (kind == 1) = false := beq_eq_false_iff_ne.2 k5
                clear k1 k2 k3 k4 k0 k5
                go_enter Try.func90, Try.ntmps90
                go_wp2_with fail
                go_ret
                exact ⟨rfl, HB.out⟩
  · have e1 : t.toList.isEmpty = false := by
      cases h : t.toList.isEmpty
      · rfl
      · exact absurd (i1.1 h) q1
    have e1' : t.toList ≠ [] := fun h => by rw [h] at e1; cases e1
    by_cases q2 : byt t = [33]
    · have e2 : (t.toList == [33]) = true := i2.2 q2
      have e2' : t.toList = [33] := beq_iff_eq.1 e2
      have hT : inTag kind style (byt t) (byt v) = if kind = 2 then [33, 33, 115, 101, 113] else if kind = 3 then [33, 33, 109, 97, 112] else if kind = 4 then [] else [33, 33, 115, 116, 114] := by
        unfold inTag; rw [q2]; simp
      rw [hT] at HH
      clear hT i1 i2 q1 q2
      by_cases k2 : kind = 2
      · subst k2
        obtain rfl : r = ⟨#[33, 33, 115, 101, 113]⟩ := HH.out.symm
        clear HH
        go_enter Try.func90, Try.ntmps90
        go_wp2_with fail
        go_ret
        exact ⟨rfl, HB.out⟩
      · rw [if_neg k2] at HH
        by_cases k3 : kind = 3
        · subst k3
          obtain rfl : r = ⟨#[33, 33, 109, 97, 112]⟩ := HH.out.symm
          clear HH
          go_enter Try.func90, Try.ntmps90
          go_wp2_with fail
          go_ret
          exact ⟨rfl, HB.out⟩
        · rw [if_neg k3] at HH
          by_cases k4 : kind = 4
          · subst k4
            obtain rfl : r = ⟨#[]⟩ := HH.out.symm
            clear HH
            go_enter Try.func90, Try.ntmps90
            go_wp2_with fail
            go_ret
            exact ⟨rfl, HB.out⟩
          · rw [if_neg k4] at HH
            obtain rfl : r = ⟨#[33, 33, 115, 116, 114]⟩ := HH.out.symm
            clear HH
            have d2 : (kind == 2) = false := beq_eq_false_iff_ne.2 k2
            have d3 : (kind == 3) = false := beq_eq_false_iff_ne.2 k3
            have d4 : (kind == 4) = false := beq_eq_false_iff_ne.2 k4
            clear k2 k3 k4
            by_cases k0 : kind = 0
            · subst k0
              clear d2 d3 d4
              go_enter Try.func90, Try.ntmps90
              go_wp2_with fail
              go_ret
              exact ⟨rfl, HB.out⟩
            · have d0 : (kind == 0) = false := beq_eq_false_iff_ne.2 k0
              clear k0
              by_cases k1 : kind = 1
              · subst k1
                clear d2 d3 d4 d0
                by_cases ks : style = 1
                · subst ks
                  go_enter Try.func90, Try.ntmps90
                  go_wp2_with fail
                  go_ret
                  exact ⟨rfl, HB.out⟩
                · have ds : (style == 1) = false := beq_eq_false_iff_ne.2 ks
                  clear ks
                  go_enter Try.func90, Try.ntmps90
                  go_wp2_with fail
                  go_ret
                  exact ⟨rfl, HB.out⟩
              · have d1 : (kind == 1) = false := beq_eq_false_iff_ne.2 k1
                clear k1
                go_enter Try.func90, Try.ntmps90
                go_wp2_with fail
                go_ret
                exact ⟨rfl, HB.out⟩
    · have e2 : (t.toList == [33]) = false := by
        cases h : t.toList == [33]
        · rfl
        · exact absurd (i2.1 h) q2
      have e2' : t.toList ≠ [33] := fun h => by rw [h] at e2; simp at e2
      obtain rfl : r = t := by
        rw [← HH.out]; unfold inTag; rw [if_pos ⟨q1, q2⟩, strOfNums_byt]
      clear HH i1 i2 q1 q2
      go_enter Try.func90, Try.ntmps90
      go_wp2_with fail
      go_ret
      exact ⟨rfl, HB.out⟩
section
variable {P : Program} {ops : Array Oper} {Q : Exit → Act → World → Prop} {md : Region.Mode} {S : World → Prop} {t : Nat}
end
end Go.Proofs.Ytcddlconcngjlaa
