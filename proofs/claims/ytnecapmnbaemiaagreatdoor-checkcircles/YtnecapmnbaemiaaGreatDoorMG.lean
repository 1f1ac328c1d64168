/- Chapter 12 (nodes on one line) as Lean functions on lists of numbers. No program. · Where a node ends, and how many nodes there are. No program. · The reader in memory: its own block, the nodes' row, each node's Kids. · What the reader's calls rest on: the bytes that came in, and the reader's state in a later world. · inline.Tag, and the document's. · The reader's finish. · The reader's begins, skip, blanks, add, expect. · The reader's alias, scalar. · The reader's scalar without quotes, and all of it. · The reader's add, expect. · A scalar's value is bytes, and not too long. No program. · The reader's key, colon. · The contract of the reader's node, and what child, item, pair make of it. · Regions that draw: operations that are not wanted, calls by whatever contract. · The reader's colon. · The reader's colon, with something behind it. · The reader's item, pair. · The reader's collection. · The reader's collection, with coll_item for its entries. · The reader's collection, with coll_pair for its entries. · The reader's content. · The reader's node: its contract. · inline.Take, lineOfText, Parse. · Chapter 12: what the laws share: a list of nodes looked at, the document's example. · Chapter 12: a node's list as it lies further on in a longer list: its Kids by so many more. No program. -/
import Derived.Test.YtnecapmnbaemiaaGreatDoorMB
import Derived.Test.YtnecapmnbaemiaaGreatDoorMC
import Derived.Test.YtnecapmnbaemiaaGreatDoorMF
import Derived.Test.YtnecapmnbaemiaaGreatDoorMD
import Derived.Test.YtnecapmnbaemiaaGreatDoorME
import Derived.Test.YtnecapmnbaemiaaGreatDoorMA
import Derived.Test.YtnecapmnbaemiaaGreatDoorDoor
import Derived.BigQuiet
import Derived.StillTailTactics
import Derived.Deep.LoopGhost
set_option linter.unusedSimpArgs false
set_option linter.unusedVariables false
namespace Go.Proofs.YtnecapmnbaemiaaGreatDoor
open Go.RowKit
set_option linter.unusedVariables false
set_option maxRecDepth 100000
structure Nd where
  kind : Int
  style : Int
  tag : List Int
  anchor : List Int
  value : List Int
  st : Nat
  en : Nat
  hd : Nat
  mr : Nat
  kids : List Nat
def Nd.nil : Nd := ⟨0, 0, [], [], [], 0, 0, 0, 0, []⟩
def u8s (l : List Int) : List UInt8 := l.map fun n => UInt8.ofNat n.toNat
def nums (l : List UInt8) : List Int := l.map fun c => (c.toNat : Int)
theorem u8s_list (l : List Int) : (strOfNums l).toList = u8s l := by rw [Lib.toList_data, strOfNums_data]; rfl
theorem nums_str (l : List UInt8) : strOfNums (nums l) = mk l := by
  apply ByteArray.ext
  apply Array.toList_inj.1
  rw [strOfNums_data]
  show _ = l
  unfold nums
  rw [List.map_map]
  have : ∀ c ∈ l, ((fun n : Int => UInt8.ofNat n.toNat) ∘ fun c : UInt8 => (c.toNat : Int)) c = c := by
    intro c _
    simp only [Function.comp, Int.toNat_natCast]
    exact UInt8.toNat_inj.1 (by rw [UInt8.toNat_ofNat']; have := c.toNat_lt; omega)
  rw [List.map_congr_left this]; simp
/-- How a tag is resolved. -/
def inTag (kind style : Int) (tag value : List Int) : List Int :=
  if tag ≠ [] ∧ tag ≠ [33] then tag
  else if kind = 2 then [33, 33, 115, 101, 113]
  else if kind = 3 then [33, 33, 109, 97, 112]
  else if kind = 4 then []
  else if kind = 0 ∧ tag = [] then [33, 33, 110, 117, 108, 108]
  else if kind = 1 ∧ style = 1 ∧ tag = [] then nums (resF (u8s value))
  else [33, 33, 115, 116, 114]
/-- A scalar at a place, or nothing there: its kind, style, value, size. -/
def inLeaf (b : List Int) (fl : Bool) (s : Nat) : Option (Int × Int × List Int × Nat) :=
  if b.getD s 0 = 34 then (takeD (b.drop s)).map fun x => (1, 3, x.1, x.2)
  else if b.getD s 0 = 39 then (Sg.takeS (b.drop s)).map fun x => (1, 2, x.1, x.2)
  else if startF (b.drop s) fl = true then some (1, 1, (b.drop s).take (lenF (b.drop s) fl), lenF (b.drop s) fl)
  else some (0, 0, [], 0)
/-- Behind blanks. -/
def inBlk (b : List Int) (s : Nat) : Nat := s + blkF (b.drop s)
abbrev InR := Except Int (List Nd × Nat)
abbrev InE := Except Int (List Nat × List Nd × Nat)
/-- A sequence's item. -/
def inItem (child : Nat → Nat → InR) (s base : Nat) : InE :=
  match child s base with
  | .error c => .error c
  | .ok (l, n) => if n = s then .error 2 else .ok ([base], l, n)
def inKey (b : List Int) (s : Nat) : Option (Nd × Nat) :=
  match inLeaf b true s with
  | none => none
  | some (k, st, v, n) => if k = 1 ∧ n ≤ 128 then some (⟨1, st, inTag 1 st [] v, [], v, s, s + n, s, s, []⟩, s + n) else none
def inColon (b : List Int) (s : Nat) : Bool := b.getD s 0 == 58 && (s + 1 == b.length || [32, 44, 125].contains (b.getD (s + 1) 0))
def inVal (l : List Nd) (hd mk : Nat) (less : Bool) : List Nd :=
  match l with
  | [] => []
  | x :: t => { x with hd := hd, mr := mk, st := if less then mk else x.st, en := if less then mk else x.en } :: t
/-- A mapping's key and value. -/
def inPair (child : Nat → Nat → InR) (b : List Int) (s base : Nat) : InE :=
  match inKey b s with
  | none => .error 2
  | some (k, n) =>
    if inColon b (inBlk b n) = true then
      match child (inBlk b (inBlk b n + 1)) (base + 1) with
      | .error c => .error c
      | .ok (l, m) => .ok ([base, base + 1], k :: inVal l s (inBlk b n + 1) (m == inBlk b (inBlk b n + 1)), m)
    else .error 2
/-- Entries up to the closing bracket c. -/
def inLoop (ent : Nat → Nat → InE) (b : List Int) (c : Int) : Nat → Nat → Nat → List Nat → List Nd → InE
  | 0, _, _, _, _ => .error 2
  | g + 1, s, base, ks, bl => match ent s base with
    | .error e => .error e
    | .ok (k, l, n) =>
      if b.getD (inBlk b n) 0 = c then .ok (ks ++ k, bl ++ l, inBlk b n + 1)
      else if b.getD (inBlk b n) 0 = 44 then inLoop ent b c g (inBlk b (inBlk b n + 1)) (base + l.length) (ks ++ k) (bl ++ l)
      else .error 2
/-- A collection, from its opening bracket on. -/
def inColl (ent : Nat → Nat → InE) (b : List Int) (c : Int) (s base : Nat) : InE :=
  if b.getD (inBlk b (s + 1)) 0 = c then .ok ([], [], inBlk b (s + 1) + 1) else inLoop ent b c (b.length + 1) (inBlk b (s + 1)) base [] []
/-- What stands behind a node's props: the node's kind, style, value, Kids; what is below it; where it ends. -/
def inCont (child : Nat → Nat → InR) (deep : Bool) (b : List Int) (fl : Bool) (s base : Nat) : Except Int (Nd × List Nd × Nat) :=
  if b.getD s 0 = 42 then
    (if (Pr.aliasF (b.drop s)).2.2 = true then .ok ({ Nd.nil with kind := 4, value := (Pr.aliasF (b.drop s)).1 }, [], s + (Pr.aliasF (b.drop s)).2.1) else .error 2)
  else if b.getD s 0 = 91 then
    (if deep = true then .error 3 else match inColl (inItem child) b 93 s base with
      | .error e => .error e
      | .ok (ks, l, n) => .ok ({ Nd.nil with kind := 2, style := 7, kids := ks }, l, n))
  else if b.getD s 0 = 123 then
    (if deep = true then .error 3 else match inColl (inPair child b) b 125 s base with
      | .error e => .error e
      | .ok (ks, l, n) => .ok ({ Nd.nil with kind := 3, style := 7, kids := ks }, l, n))
  else match inLeaf b fl s with
    | none => .error 2
    | some (k, st, v, n) => .ok ({ Nd.nil with kind := k, style := st, value := v }, [], s + n)
def inFin (x : Nd) (tag anchor : List Int) (st en : Nat) : Nd := { x with tag := inTag x.kind x.style tag x.value, anchor := anchor, st := st, en := en, hd := st, mr := st }
/-- A node, given its props and what is behind them. -/
def inDone (p : List Int × List Int × Nat × Bool) (s s2 : Nat) : Except Int (Nd × List Nd × Nat) → InR
  | .error e => .error e
  | .ok (x, l, m) =>
    if x.kind = 4 ∧ 0 < p.2.2.1 then .error 2
    else if x.kind = 0 then .ok (inFin x p.1 p.2.1 s (s + p.2.2.1) :: l, s + p.2.2.1)
    else .ok (inFin x p.1 p.2.1 (if p.2.2.1 = 0 then s2 else s) m :: l, m)
def inNodeG (child : Nat → Nat → InR) (deep : Bool) (b : List Int) (fl : Bool) (s base : Nat) : InR :=
  if (Pr.takeP (b.drop s)).2.2.2 = true then
    inDone (Pr.takeP (b.drop s)) s (inBlk b (s + (Pr.takeP (b.drop s)).2.2.1)) (inCont child deep b fl (inBlk b (s + (Pr.takeP (b.drop s)).2.2.1)) (base + 1))
  else .error 2
/-- The node at a place, its number base; f: how much deeper collections may go. -/
def inNode : Nat → List Int → Bool → Nat → Nat → InR
  | 0, b, fl, s, base => inNodeG (fun _ _ => .error 3) true b fl s base
  | f + 1, b, fl, s, base => inNodeG (inNode f b true) false b fl s base
def inText (b : List Int) : Bool := (checkF b).2 == 0 && (!(b.take 3 == [239, 187, 191]) && !b.contains 10)
def inParse (b : List Int) (fl : Bool) : Except Int (List Nd) :=
  if inText b = true then
    match inNode 64 b fl 0 0 with
    | .error e => .error e
    | .ok (l, n) => if n = 0 ∨ n < b.length then .error 2 else .ok l
  else .error 1
theorem getD_lt {b : List Int} {k : Nat} (h : b.getD k 0 ≠ 0) : k < b.length := by
  rcases Nat.lt_or_ge k b.length with h1 | h1
  · exact h1
  · exact absurd (by simp [List.getD, List.getElem?_eq_none h1]) h
theorem blk_ge (b : List Int) (s : Nat) : s ≤ inBlk b s := by unfold inBlk; omega
theorem blk_le {b : List Int} {s : Nat} (h : s ≤ b.length) : inBlk b s ≤ b.length := by
  unfold inBlk; have := blk_len (b.drop s); rw [List.length_drop] at this; omega
theorem takeD_len {zs v : List Int} {n : Nat} (h : takeD zs = some (v, n)) : 2 ≤ n ∧ n ≤ zs.length := by
  unfold takeD dqAt at h
  split at h
  · rename_i h0
    cases hq : dq (zs.drop 1) with
    | none => rw [hq] at h; cases h
    | some x =>
      obtain ⟨v', m⟩ := x
      rw [hq] at h
      simp only [Option.map_some, Option.some.injEq, Prod.mk.injEq] at h
      obtain ⟨h1, h2, _⟩ := dq_len _ _ v' m (Nat.le_refl _) hq
      rw [List.length_drop] at h2
      omega
  · cases h
theorem alias_len {l : List Int} (h : (Pr.aliasF l).2.2 = true) : 1 ≤ (Pr.aliasF l).2.1 ∧ (Pr.aliasF l).2.1 ≤ l.length := by
  unfold Pr.aliasF at h ⊢
  split at h
  · rename_i hc
    rw [if_pos hc]
    simp only [Bool.and_eq_true] at hc
    have h1 := Pr.cut_true 42 l hc.1
    have h2 := (Pr.ltr_len 33 (Pr.cutF 42 l).1).1
    have h3 := congrArg List.length h1
    simp only [List.length_cons] at h3
    simp only []
    omega
  · cases h
theorem goP_len : ∀ (f : Nat) (l : List Int) (i n : Nat) (t a : List Int), n ≤ i → (Pr.goP f l i n t a).2.2.1 ≤ i + l.length := by
  intro f
  induction f with
  | zero => intro l i n t a h; simp only [Pr.goP]; omega
  | succ f ih =>
    intro l i n t a h
    cases hb : Pr.begF l with
    | false => rw [Pr.goP_stop f l i n t a hb]; show n ≤ _; omega
    | true =>
      cases hw : (Pr.withF t a (Pr.wrdF l)).2.2 with
      | false => rw [Pr.goP_bad f l i n t a hb hw]; show 0 ≤ _; omega
      | true =>
        rw [Pr.goP_next f l i n t a hb hw]
        refine Nat.le_trans (ih _ _ _ _ _ (by omega)) ?_
        have h1 := Pr.wrd_len l
        have h2 := blk_len (l.drop (Pr.wrdF l).length)
        simp only [List.length_drop] at h2 ⊢
        omega
theorem takeP_len (l : List Int) : (Pr.takeP l).2.2.1 ≤ l.length := by
  have := goP_len (l.length + 1) l 0 0 [] [] (Nat.le_refl _)
  unfold Pr.takeP; omega
theorem leaf_size {b : List Int} {fl : Bool} {s : Nat} {k st : Int} {v : List Int} {n : Nat} (hs : s ≤ b.length) (h : inLeaf b fl s = some (k, st, v, n)) :
    s + n ≤ b.length ∧ ((k = 0 ∧ st = 0 ∧ v = [] ∧ n = 0) ∨ (k = 1 ∧ 0 < n)) := by
  unfold inLeaf at h
  split at h
  · cases hq : takeD (b.drop s) with
    | none => rw [hq] at h; cases h
    | some x =>
      obtain ⟨v', m⟩ := x
      rw [hq] at h
      simp only [Option.map_some, Option.some.injEq, Prod.mk.injEq] at h
      have := takeD_len hq
      rw [List.length_drop] at this
      exact ⟨by omega, .inr ⟨h.1.symm, by omega⟩⟩
  · split at h
    · cases hq : Sg.takeS (b.drop s) with
      | none => rw [hq] at h; cases h
      | some x =>
        obtain ⟨v', m⟩ := x
        rw [hq] at h
        simp only [Option.map_some, Option.some.injEq, Prod.mk.injEq] at h
        have := Sg.takeS_sgl _ _ _ hq
        rw [List.length_drop] at this
        exact ⟨by omega, .inr ⟨h.1.symm, by omega⟩⟩
    · split at h
      · rename_i hst
        simp only [Option.some.injEq, Prod.mk.injEq] at h
        have h1 := len_le (b.drop s) fl
        have h2 := len_pos (b.drop s) fl
        rw [hst] at h2
        have h3 := of_decide_eq_true h2
        rw [List.length_drop] at h1
        exact ⟨by omega, .inr ⟨h.1.symm, by omega⟩⟩
      · simp only [Option.some.injEq, Prod.mk.injEq] at h
        exact ⟨by omega, .inl ⟨h.1.symm, h.2.1.symm, h.2.2.1.symm, h.2.2.2.symm⟩⟩
theorem key_size {b : List Int} {s : Nat} {x : Nd} {n : Nat} (hs : s ≤ b.length) (h : inKey b s = some (x, n)) : s < n ∧ n ≤ b.length := by
  unfold inKey at h
  cases hl : inLeaf b true s with
  | none => rw [hl] at h; cases h
  | some y =>
    obtain ⟨k, st, v, m⟩ := y
    rw [hl] at h
    simp only [] at h
    split at h
    · rename_i hc
      simp only [Option.some.injEq, Prod.mk.injEq] at h
      obtain ⟨h1, h2⟩ := leaf_size hs hl
      omega
    · cases h
theorem colon_lt {b : List Int} {s : Nat} (h : inColon b s = true) : s < b.length := by
  unfold inColon at h
  simp only [Bool.and_eq_true, beq_iff_eq] at h
  exact getD_lt (by rw [h.1]; decide)
def SizeC (b : List Int) (child : Nat → Nat → InR) : Prop :=
  ∀ s base l n, s ≤ b.length → child s base = .ok (l, n) → s ≤ n ∧ n ≤ b.length ∧ 1 ≤ l.length ∧ l.length ≤ n - s + 1 ∧ (s < n → l.length ≤ n - s)
def SizeE (b : List Int) (ent : Nat → Nat → InE) : Prop :=
  ∀ s base k l n, s ≤ b.length → ent s base = .ok (k, l, n) → s < n ∧ n ≤ b.length ∧ l.length ≤ n - s
theorem val_len (l : List Nd) (h m : Nat) (t : Bool) : (inVal l h m t).length = l.length := by cases l <;> rfl
theorem item_size {b : List Int} {child : Nat → Nat → InR} (h : SizeC b child) : SizeE b (inItem child) := by
  intro s base k l n hs he
  unfold inItem at he
  cases hc : child s base with
  | error e => rw [hc] at he; cases he
  | ok x =>
    obtain ⟨l', n'⟩ := x
    rw [hc] at he
    simp only [] at he
    split at he
    · cases he
    · rename_i hne
      simp only [Except.ok.injEq, Prod.mk.injEq] at he
      obtain ⟨h1, h2, h3, h4, h5⟩ := h s base l' n' hs hc
      obtain ⟨_, rfl, rfl⟩ := he
      exact ⟨by omega, h2, h5 (by omega)⟩
theorem pair_size {b : List Int} {child : Nat → Nat → InR} (h : SizeC b child) : SizeE b (inPair child b) := by
  intro s base k l n hs he
  unfold inPair at he
  cases hk : inKey b s with
  | none => rw [hk] at he; cases he
  | some x =>
    obtain ⟨kx, n0⟩ := x
    rw [hk] at he
    simp only [] at he
    split at he
    · rename_i hcol
      obtain ⟨k1, k2⟩ := key_size hs hk
      have b1 := blk_ge b n0
      have b2 := colon_lt hcol
      have b3 := blk_ge b (inBlk b n0 + 1)
      have b4 := blk_le (b := b) (s := inBlk b n0 + 1) (by omega)
      cases hc : child (inBlk b (inBlk b n0 + 1)) (base + 1) with
      | error e => rw [hc] at he; cases he
      | ok y =>
        obtain ⟨l', m⟩ := y
        rw [hc] at he
        simp only [Except.ok.injEq, Prod.mk.injEq] at he
        obtain ⟨h1, h2, h3, h4, h5⟩ := h _ _ l' m b4 hc
        obtain ⟨_, rfl, rfl⟩ := he
        refine ⟨by omega, h2, ?_⟩
        rw [List.length_cons, val_len]; omega
    · cases he
theorem loop_size {b : List Int} {ent : Nat → Nat → InE} (h : SizeE b ent) {c : Int} (hc0 : c ≠ 0) : ∀ (g s base : Nat) (ks : List Nat) (bl : List Nd) (K : List Nat) (L : List Nd) (n : Nat), s ≤ b.length →
    inLoop ent b c g s base ks bl = .ok (K, L, n) → s < n ∧ n ≤ b.length ∧ L.length ≤ bl.length + (n - s) := by
  intro g
  induction g with
  | zero => intro s base ks bl K L n hs he; cases he
  | succ g ih =>
    intro s base ks bl K L n hs he
    rw [inLoop] at he
    cases hx : ent s base with
    | error e => rw [hx] at he; cases he
    | ok x =>
      obtain ⟨k, l, m⟩ := x
      rw [hx] at he
      simp only [] at he
      obtain ⟨h1, h2, h3⟩ := h s base k l m hs hx
      have b1 := blk_ge b m
      split at he
      · rename_i hc
        have b2 := getD_lt (b := b) (k := inBlk b m) (by rw [hc]; exact hc0)
        simp only [Except.ok.injEq, Prod.mk.injEq] at he
        obtain ⟨_, rfl, rfl⟩ := he
        refine ⟨by omega, by omega, ?_⟩
        rw [List.length_append]; omega
      · split at he
        · rename_i hc
          have b2 := getD_lt (b := b) (k := inBlk b m) (by rw [hc]; decide)
          have b3 := blk_ge b (inBlk b m + 1)
          have b4 := blk_le (b := b) (s := inBlk b m + 1) (by omega)
          obtain ⟨g1, g2, g3⟩ := ih _ _ _ _ K L n b4 he
          refine ⟨by omega, g2, ?_⟩
          rw [List.length_append] at g3; omega
        · cases he
theorem coll_size {b : List Int} {ent : Nat → Nat → InE} (h : SizeE b ent) {c : Int} (hc0 : c ≠ 0) {s base : Nat} {K : List Nat} {L : List Nd} {n : Nat} (hs : s < b.length)
    (he : inColl ent b c s base = .ok (K, L, n)) : s + 1 < n ∧ n ≤ b.length ∧ L.length ≤ n - (s + 1) := by
  unfold inColl at he
  have b1 := blk_ge b (s + 1)
  have b2 := blk_le (b := b) (s := s + 1) (by omega)
  split at he
  · rename_i hc
    have b3 := getD_lt (b := b) (k := inBlk b (s + 1)) (by rw [hc]; exact hc0)
    simp only [Except.ok.injEq, Prod.mk.injEq] at he
    obtain ⟨_, rfl, rfl⟩ := he
    exact ⟨by omega, by omega, by simp⟩
  · obtain ⟨h1, h2, h3⟩ := loop_size h hc0 _ _ _ _ _ K L n b2 he
    simp only [List.length_nil] at h3
    exact ⟨by omega, h2, by omega⟩
theorem cont_size {b : List Int} {child : Nat → Nat → InR} (h : SizeC b child) {deep fl : Bool} {s base : Nat} {x : Nd} {l : List Nd} {n : Nat} (hs : s ≤ b.length) (he : inCont child deep b fl s base = .ok (x, l, n)) :
    s ≤ n ∧ n ≤ b.length ∧ (x.kind = 0 → n = s ∧ l = []) ∧ (x.kind ≠ 0 → 1 + l.length ≤ n - s) ∧ l.length ≤ n - s := by
  unfold inCont at he
  split at he
  · split at he
    · rename_i ha
      have := alias_len ha
      rw [List.length_drop] at this
      simp only [Except.ok.injEq, Prod.mk.injEq] at he
      obtain ⟨rfl, rfl, rfl⟩ := he
      refine ⟨by omega, by omega, fun hk => by simp at hk, fun _ => by simp only [List.length_nil]; omega, by simp⟩
    · cases he
  · split at he
    · rename_i h91
      have hlt := getD_lt (b := b) (k := s) (by rw [h91]; decide)
      split at he
      · cases he
      · cases hc : inColl (inItem child) b 93 s base with
        | error e => rw [hc] at he; cases he
        | ok y =>
          obtain ⟨ks, l', n'⟩ := y
          rw [hc] at he
          simp only [Except.ok.injEq, Prod.mk.injEq] at he
          obtain ⟨rfl, rfl, rfl⟩ := he
          have := coll_size (item_size h) (by decide) hlt hc
          refine ⟨by omega, by omega, fun hk => by simp at hk, fun _ => by omega, by omega⟩
    · split at he
      · rename_i h123
        have hlt := getD_lt (b := b) (k := s) (by rw [h123]; decide)
        split at he
        · cases he
        · cases hc : inColl (inPair child b) b 125 s base with
          | error e => rw [hc] at he; cases he
          | ok y =>
            obtain ⟨ks, l', n'⟩ := y
            rw [hc] at he
            simp only [Except.ok.injEq, Prod.mk.injEq] at he
            obtain ⟨rfl, rfl, rfl⟩ := he
            have := coll_size (pair_size h) (by decide) hlt hc
            refine ⟨by omega, by omega, fun hk => by simp at hk, fun _ => by omega, by omega⟩
      · cases hl : inLeaf b fl s with
        | none => rw [hl] at he; cases he
        | some y =>
          obtain ⟨k, st, v, m⟩ := y
          rw [hl] at he
          simp only [Except.ok.injEq, Prod.mk.injEq] at he
          obtain ⟨rfl, rfl, rfl⟩ := he
          obtain ⟨h1, h2⟩ := leaf_size hs hl
          refine ⟨by omega, by omega, fun hk => ⟨?_, rfl⟩, fun hk => ?_, by simp⟩
          · rcases h2 with h2 | h2
            · omega
            · exfalso; have : k = 0 := hk; omega
          · rcases h2 with h2 | h2
            · exact absurd h2.1 hk
            · simp only [List.length_nil]; omega
theorem nodeG_size {b : List Int} {child : Nat → Nat → InR} (h : SizeC b child) (deep fl : Bool) : SizeC b (inNodeG child deep b fl) := by
  intro s base l n hs he
  unfold inNodeG at he
  have hp := takeP_len (b.drop s)
  rw [List.length_drop] at hp
  split at he
  · generalize hq : Pr.takeP (b.drop s) = p at *
    obtain ⟨t, a, m, ok⟩ := p
    simp only [] at he hp
    have b1 := blk_ge b (s + m)
    have b2 := blk_le (b := b) (s := s + m) (by omega)
    cases hc : inCont child deep b fl (inBlk b (s + m)) (base + 1) with
    | error e => rw [hc] at he; cases he
    | ok y =>
      obtain ⟨x, l', n'⟩ := y
      rw [hc] at he
      obtain ⟨h1, h2, h3, h4, h5⟩ := cont_size h b2 hc
      simp only [inDone] at he
      split at he
      · cases he
      · split at he
        · rename_i hk
          simp only [Except.ok.injEq, Prod.mk.injEq] at he
          obtain ⟨rfl, rfl⟩ := he
          rw [(h3 hk).2]
          simp only [List.length_cons, List.length_nil]
          omega
        · rename_i hk
          simp only [Except.ok.injEq, Prod.mk.injEq] at he
          obtain ⟨rfl, rfl⟩ := he
          have := h4 hk
          simp only [List.length_cons]
          omega
  · cases he
theorem node_size (b : List Int) : ∀ (f : Nat) (fl : Bool), SizeC b (inNode f b fl) := by
  intro f
  induction f with
  | zero => intro fl; exact nodeG_size (fun s base l n _ h => by cases h) true fl
  | succ f ih => intro fl; exact nodeG_size (ih true) false fl
abbrev NK := Nd × Value
def ndC (p : NK) : List Value := [.int .i64 p.1.kind, .int .i64 p.1.style, .string (strOfNums p.1.tag), .string (strOfNums p.1.anchor), .string (strOfNums p.1.value), .int .i64 (p.1.st : Int), .int .i64 (p.1.en : Int), .int .i64 (p.1.hd : Int), .int .i64 (p.1.mr : Int), p.2]
def ndsC (P : List NK) : List Value := P.flatMap ndC
def kidC (l : List Nat) : List Value := l.map fun n => .int .i64 ((n : Nat) : Int)
theorem ndC_len (p : NK) : (ndC p).length = 10 := rfl
theorem ndsC_cons (p : NK) (t : List NK) : ndsC (p :: t) = ndC p ++ ndsC t := List.flatMap_cons
theorem ndsC_app (P Q : List NK) : ndsC (P ++ Q) = ndsC P ++ ndsC Q := List.flatMap_append
theorem ndsC_len : ∀ P : List NK, (ndsC P).length = P.length * 10
  | [] => rfl
  | p :: t => by rw [ndsC_cons, List.length_append, ndsC_len t, ndC_len, List.length_cons]; omega
theorem ndsC_at : ∀ (P : List NK) (i j : Nat) (p : NK), P[i]? = some p → j < 10 → (ndsC P)[i * 10 + j]? = (ndC p)[j]?
  | [], i, j, p, h, _ => by simp at h
  | q :: t, 0, j, p, h, hj => by
    simp at h; subst h
    rw [ndsC_cons, List.getElem?_append_left (by rw [ndC_len]; omega)]; simp
  | q :: t, i + 1, j, p, h, hj => by
    simp at h
    rw [ndsC_cons, List.getElem?_append_right (by rw [ndC_len]; omega), ndC_len, show (i + 1) * 10 + j - 10 = i * 10 + j by omega]
    exact ndsC_at t i j p h hj
theorem ndsC_set : ∀ (P : List NK) (i j : Nat) (p p' : NK) (u : Value), P[i]? = some p → j < 10 → ndC p' = (ndC p).set j u → (ndsC P).set (i * 10 + j) u = ndsC (P.set i p')
  | [], i, j, p, p', u, h, _, _ => by simp at h
  | q :: t, 0, j, p, p', u, h, hj, hp => by
    simp at h; subst h
    rw [ndsC_cons, List.set_append_left _ _ (by rw [ndC_len]; omega), List.set_cons_zero, ndsC_cons, hp]; simp
  | q :: t, i + 1, j, p, p', u, h, hj, hp => by
    simp at h
    rw [ndsC_cons, List.set_append_right _ _ (by rw [ndC_len]; omega), ndC_len, show (i + 1) * 10 + j - 10 = i * 10 + j by omega, ndsC_set t i j p p' u h hj hp, List.set_cons_succ, ndsC_cons]
theorem grown_of_below {W W' : World} (h : Below W.heap.size W W') (row : Option Nat) : W.grownBy W' row := ⟨h.os, h.tape, h.output, h.size, fun k hk _ => h.block k hk⟩
theorem grown_store (W : World) (g j : Nat) (u : Value) : W.grownBy (W.setCell ⟨g, j, none⟩ u) (some g) := ⟨rfl, rfl, rfl, by simp [World.setCell], fun k _ hk => Below.heap_setCell _ _ _ _ (fun e => hk (by simp [e]))⟩
theorem own_kept {w w' : World} {base : Nat} {e : TypeId} {size : Nat} {v : Value} {n : Nat} {xs : List Value} {row : Option Nat} (h : w.ownsRow base e size v n xs) (hg : w.grownBy w' row) (hne : ∀ k, row = some k → v.ownBlock ≠ some k) : w'.ownsRow base e size v n xs := by
  refine h.kept hg ?_
  cases row with
  | none => cases hv : v.ownBlock <;> simp
  | some k => exact .inr (hne k rfl)
theorem set_look {P : List NK} {i q : Nat} {p p' y : NK} (hp : P[i]? = some p) (hy : (P.set i p')[q]? = some y) : (q = i ∧ y = p') ∨ (q ≠ i ∧ P[q]? = some y) := by
  have hi := (List.getElem?_eq_some_iff.1 hp).1
  by_cases hq : i = q
  · subst hq
    rw [List.getElem?_set_self hi] at hy
    injection hy with hy
    exact .inl ⟨rfl, hy.symm⟩
  · rw [List.getElem?_set_ne hq] at hy
    exact .inr ⟨fun e => hq e.symm, hy⟩
theorem snoc_look {P : List NK} {q : Nat} {x y : NK} (hy : (P ++ [x])[q]? = some y) : (q = P.length ∧ y = x) ∨ (q < P.length ∧ P[q]? = some y) := by
  rcases Nat.lt_trichotomy q P.length with h | h | h
  · rw [List.getElem?_append_left h] at hy; exact .inr ⟨h, hy⟩
  · subst h; simp at hy; exact .inl ⟨rfl, hy.symm⟩
  · rw [List.getElem?_eq_none (by simp; omega)] at hy; cases hy
/-- The nodes' row, and each node's Kids, all in memory of our own, each in a block of its own. -/
structure Nds (B : Nat) (W : World) (v : Value) (P : List NK) : Prop where
  row : W.ownsRow B 47 10 v P.length (ndsC P)
  kid : ∀ (i : Nat) (p : NK), P[i]? = some p → W.ownsRow B 3 1 p.2 p.1.kids.length (kidC p.1.kids)
  apart : ∀ (i j : Nat) (p q : NK) (k : Nat), P[i]? = some p → P[j]? = some q → i ≠ j → p.2.ownBlock = some k → q.2.ownBlock ≠ some k
  off : ∀ (i : Nat) (p : NK) (k : Nat), P[i]? = some p → p.2.ownBlock = some k → v.ownBlock ≠ some k
section
variable {B : Nat} {W W' : World} {v : Value} {P : List NK}
theorem Nds.nil (B : Nat) (W : World) : Nds B W (.slice none 0 0) [] := ⟨own_nil W B 10 _, fun i p h => by simp at h, fun i j p q k h => by simp at h, fun i p k h => by simp at h⟩
theorem Nds.keep (h : Nds B W v P) {row : Option Nat} (hg : W.grownBy W' row) (hv : ∀ k, row = some k → v.ownBlock ≠ some k) (hk : ∀ (i : Nat) (p : NK) (k : Nat), P[i]? = some p → row = some k → p.2.ownBlock ≠ some k) : Nds B W' v P :=
  ⟨own_kept h.row hg hv, fun i p hp => own_kept (h.kid i p hp) hg (fun k hr => hk i p k hp hr), h.apart, h.off⟩
theorem Nds.below (h : Nds B W v P) (hb : Below W.heap.size W W') : Nds B W' v P := h.keep (grown_of_below hb none) (fun k hk => by cases hk) (fun i p k _ hk => by cases hk)
theorem Nds.blockB (h : Nds B W v P) {k : Nat} (hk : v.ownBlock = some k) : B ≤ k ∧ k < W.heap.size := h.row.lt k hk
theorem Nds.kidB (h : Nds B W v P) {i : Nat} {p : NK} (hp : P[i]? = some p) {k : Nat} (hk : p.2.ownBlock = some k) : B ≤ k ∧ k < W.heap.size := (h.kid i p hp).lt k hk
/-- The row has a block. -/
theorem Nds.form (h : Nds B W v P) (h0 : 0 < P.length) : ∃ g cap, v = .slice (some ⟨g, 0, none⟩) P.length cap ∧ P.length ≤ cap ∧ cap ≤ 9223372036854775807 ∧ B ≤ g ∧ g < W.heap.size := by
  rcases h.row.2 with ⟨_, h1⟩ | ⟨g, cap, cur, hv, hb, hg, hnc, hm, _⟩
  · omega
  · exact ⟨g, cap, hv, hnc, by unfold maxLen at hm; omega, hb, (Array.getElem?_eq_some_iff.1 hg).1⟩
end
section
variable {B : Nat} {W W' : World} {P : List NK} {g cap : Nat}
theorem Nds.cell (h : Nds B W (.slice (some ⟨g, 0, none⟩) P.length cap) P) {i : Nat} {p : NK} (hp : P[i]? = some p) (j : Nat) (u : Value) (hu : (ndC p)[j]? = some u) : W.cell? ⟨g, i * 10 + j, none⟩ = some u := by
  have hi := (List.getElem?_eq_some_iff.1 hp).1
  have hj : j < 10 := by have := (List.getElem?_eq_some_iff.1 hu).1; rwa [ndC_len] at this
  rw [h.row.cellAt _ (by omega), ndsC_at P i j p hp hj, hu]
theorem Nds.frozen (h : Nds B W (.slice (some ⟨g, 0, none⟩) P.length cap) P) (j : Nat) : W.frozen? ⟨g, j, none⟩ = false := h.row.frozenAt j
/-- A cell of a node, other than its Kids, stored. -/
theorem Nds.set (h : Nds B W (.slice (some ⟨g, 0, none⟩) P.length cap) P) {i : Nat} {p p' : NK} (hp : P[i]? = some p) (j : Nat) (hj : j < 10) (u : Value) (hc : ndC p' = (ndC p).set j u) (h2 : p'.2 = p.2) (h3 : p'.1.kids = p.1.kids) :
    Nds B (W.setCell ⟨g, i * 10 + j, none⟩ u) (.slice (some ⟨g, 0, none⟩) (P.set i p').length cap) (P.set i p') := by
  have hg := grown_store W g (i * 10 + j) u
  have hi := (List.getElem?_eq_some_iff.1 hp).1
  have look : ∀ (q : Nat) (y : NK), (P.set i p')[q]? = some y → ∃ x, P[q]? = some x ∧ y.2 = x.2 ∧ y.1.kids = x.1.kids := by
    intro q y hy
    rcases set_look hp hy with ⟨rfl, rfl⟩ | ⟨_, hy⟩
    · exact ⟨p, hp, h2, h3⟩
    · exact ⟨y, hy, rfl, rfl⟩
  refine ⟨?_, ?_, ?_, ?_⟩
  · rw [List.length_set, ← ndsC_set P i j p p' u hp hj hc]
    exact (h.row.stored _ u).1
  · intro q y hy
    obtain ⟨x, hx, e1, e2⟩ := look q y hy
    rw [e1, e2]
    exact own_kept (h.kid q x hx) hg (fun k hk hx2 => by
      injection hk with hk
      subst hk
      exact h.off q x _ hx hx2 rfl)
  · intro q r y z k hy hz hne hk
    obtain ⟨x, hx, e1, _⟩ := look q y hy
    obtain ⟨x', hx', e1', _⟩ := look r z hz
    rw [e1] at hk
    rw [e1']
    exact h.apart q r x x' k hx hx' hne hk
  · intro q y k hy hk
    obtain ⟨x, hx, e1, _⟩ := look q y hy
    rw [e1] at hk
    exact h.off q x k hx hk
end
/-- The reader's block, and what it leads to. -/
structure St (B : Nat) (W : World) (R : Nat) (A : Option Addr) (n c s : Nat) (v : Value) (P : List NK) : Prop where
  blk : W.heap[R]? = some (.cells #[.slice A n c, .int .i64 (s : Int), v] 56)
  ge : B ≤ R
  nds : Nds B W v P
  offv : v.ownBlock ≠ some R
  offk : ∀ (i : Nat) (p : NK), P[i]? = some p → p.2.ownBlock ≠ some R
section
variable {B : Nat} {W W' : World} {R : Nat} {A : Option Addr} {n c s s' : Nat} {v : Value} {P : List NK}
theorem St.lt (h : St B W R A n c s v P) : R < W.heap.size := (Array.getElem?_eq_some_iff.1 h.blk).1
theorem St.le (h : St B W R A n c s v P) : B ≤ W.heap.size := Nat.le_trans h.ge (Nat.le_of_lt h.lt)
theorem St.c0 (h : St B W R A n c s v P) : W.cell? ⟨R, 0, none⟩ = some (.slice A n c) := by simp [World.cell?, h.blk]
theorem St.c1 (h : St B W R A n c s v P) : W.cell? ⟨R, 1, none⟩ = some (.int .i64 (s : Int)) := by simp [World.cell?, h.blk]
theorem St.c2 (h : St B W R A n c s v P) : W.cell? ⟨R, 2, none⟩ = some v := by simp [World.cell?, h.blk]
theorem St.z (h : St B W R A n c s v P) (j : Nat) : W.frozen? ⟨R, j, none⟩ = false := by simp [World.frozen?, h.blk]
theorem St.below (h : St B W R A n c s v P) (hb : Below W.heap.size W W') : St B W' R A n c s v P := ⟨(hb.block R h.lt).trans h.blk, h.ge, h.nds.below hb, h.offv, h.offk⟩
/-- The place moves. -/
theorem St.move (h : St B W R A n c s v P) (s' : Nat) : St B (W.setCell ⟨R, 1, none⟩ (.int .i64 (s' : Int))) R A n c s' v P := by
  refine ⟨?_, h.ge, h.nds.keep (grown_store W R 1 _) (fun k hk => ?_) (fun i p k hp hk => ?_), h.offv, h.offk⟩
  · have := h.blk; simp [World.setCell, Array.getElem?_modify, this]
  · injection hk with hk; subst hk; exact h.offv
  · injection hk with hk; subst hk; exact h.offk i p hp
end
section
variable {B : Nat} {W W' : World} {R : Nat} {A : Option Addr} {n c s s' : Nat} {P : List NK} {g cap : Nat}
theorem St.ne (h : St B W R A n c s (.slice (some ⟨g, 0, none⟩) P.length cap) P) : g ≠ R := fun e => h.offv (by simp [Value.ownBlock, e])
/-- A cell of a node, other than its Kids, stored. -/
theorem St.set (h : St B W R A n c s (.slice (some ⟨g, 0, none⟩) P.length cap) P) {i : Nat} {p p' : NK} (hp : P[i]? = some p) (j : Nat) (hj : j < 10) (u : Value) (hc : ndC p' = (ndC p).set j u) (h2 : p'.2 = p.2) (h3 : p'.1.kids = p.1.kids) :
    St B (W.setCell ⟨g, i * 10 + j, none⟩ u) R A n c s (.slice (some ⟨g, 0, none⟩) (P.set i p').length cap) (P.set i p') := by
  refine ⟨?_, h.ge, h.nds.set hp j hj u hc h2 h3, fun e => h.ne (by simpa [Value.ownBlock] using e), ?_⟩
  · rw [Below.heap_setCell _ _ _ _ (fun e => h.ne e.symm), List.length_set]; exact h.blk
  · intro q y hy
    rcases set_look hp hy with ⟨rfl, rfl⟩ | ⟨_, hy⟩
    · rw [h2]; exact h.offk q p hp
    · exact h.offk q y hy
end
def nilK : NK := (Nd.nil, .slice none 0 0)
theorem node_info : (Tryz.prog.info? 47).map (fun i => (i.zero, i.size, i.bytes)) = some (some (.agg #[.int .i64 0, .int .i64 0, .string ⟨#[]⟩, .string ⟨#[]⟩, .string ⟨#[]⟩, .int .i64 0, .int .i64 0, .int .i64 0, .int .i64 0, .slice none 0 0]), 10, 120) := by kernel_rfl
theorem int_info : (Tryz.prog.info? 3).map (fun i => (i.zero, i.size, i.bytes)) = some (some (.int .i64 0), 1, 8) := by kernel_rfl
section
variable {B : Nat} {W W' : World} {R : Nat} {A : Option Addr} {n c s : Nat} {v : Value} {P : List NK}
theorem St.add (h : St B W R A n c s v P) (hn : P.length ≤ 400000) : ∃ v' w', (Builtin.append_ #[25, 25] 25 #[v, .slice (some ⟨W.heap.size, 0, none⟩) 1 1]).run Tryz.prog (W.alloc (.cells #[.int .i64 0, .int .i64 0, .string ⟨#[]⟩, .string ⟨#[]⟩, .string ⟨#[]⟩, .int .i64 0, .int .i64 0, .int .i64 0, .int .i64 0, .slice none 0 0] 47)) = .ok v' w' ∧
    w'.cell? ⟨R, 2, none⟩ = some v ∧ w'.frozen? ⟨R, 2, none⟩ = false ∧ (∃ A' cap', v' = .slice A' (P.length + 1) cap') ∧ Below B W w' ∧ St B (w'.setCell ⟨R, 2, none⟩ v') R A n c s v' (P ++ [nilK]) ∧ ∀ k, k < W.heap.size → v.ownBlock ≠ some k → w'.heap[k]? = W.heap[k]? ∧ v'.ownBlock ≠ some k := by
  obtain ⟨W1, hW1⟩ : ∃ W1, W.alloc (.cells #[.int .i64 0, .int .i64 0, .string ⟨#[]⟩, .string ⟨#[]⟩, .string ⟨#[]⟩, .int .i64 0, .int .i64 0, .int .i64 0, .int .i64 0, .slice none 0 0] 47) = W1 := ⟨_, rfl⟩
  have hb1 : Below W.heap.size W W1 := by rw [← hW1]; exact (Below.refl _ _).alloc (Nat.le_refl _) _
  have h1 : St B W1 R A n c s v P := h.below hb1
  have hrd : RdC W1 (some ⟨W.heap.size, 0, none⟩) (ndC nilK) := by
    rw [← hW1]
    refine RdC.new rfl fun k u hk => ?_
    rw [← hk, List.getElem?_toArray]
    rfl
  obtain ⟨v', w', hrun, hown, hg, hv⟩ := run_append_rows Tryz.underlying25 node_info rfl (by omega) (by omega) W1 B v P.length (ndsC P) h1.nds.row h1.le (some ⟨W.heap.size, 0, none⟩) 1 1 (ndC nilK) rfl hrd
    (by intro u hu; simp [ndC] at hu; rcases hu with rfl | rfl | rfl | rfl | rfl | rfl | rfl | rfl | rfl | rfl <;> rfl) (by omega)
  rw [hW1]
  have hlt1 : R < W1.heap.size := h1.lt
  have hR : w'.heap[R]? = W1.heap[R]? := hg.block R hlt1 (fun e => h1.offv e.symm)
  have hblk := hR.trans h1.blk
  have hoffv : v'.ownBlock ≠ some R := by
    rcases hv with hv | hv
    · rw [hv]; exact h1.offv
    · rw [hv]; intro e; injection e with e; omega
  have hnds : Nds B w' v' (P ++ [nilK]) := by
    refine ⟨?_, ?_, ?_, ?_⟩
    · rw [List.length_append, ndsC_app]
      have e : ndsC [nilK] = ndC nilK := by simp [ndsC]
      rw [e]
      exact hown
    · intro i p hp
      rcases snoc_look hp with ⟨rfl, rfl⟩ | ⟨hi, hp⟩
      · exact own_nil w' B 1 _
      · exact own_kept (h1.nds.kid i p hp) hg (fun k hk hx => h1.nds.off i p k hp hx hk)
    · intro i j p q k hp hq hne hk
      rcases snoc_look hp with ⟨rfl, rfl⟩ | ⟨hi, hp⟩
      · cases hk
      · rcases snoc_look hq with ⟨rfl, rfl⟩ | ⟨hj, hq⟩
        · intro e; cases e
        · exact h1.nds.apart i j p q k hp hq hne hk
    · intro i p k hp hk
      rcases snoc_look hp with ⟨rfl, rfl⟩ | ⟨hi, hp⟩
      · cases hk
      · rcases hv with hv | hv
        · rw [hv]; exact h1.nds.off i p k hp hk
        · rw [hv]; intro e; injection e with e
          have := (h1.nds.kidB hp hk).2
          omega
  refine ⟨v', w', hrun, by simp [World.cell?, hblk], by simp [World.frozen?, hblk], ?_, ?_, ?_, ?_⟩
  · obtain ⟨A', cap', e, _⟩ := own_form hown
    exact ⟨A', cap', e⟩
  · exact (hb1.mono h.le).grown hg h1.le (fun k hk => (h1.nds.blockB hk).1)
  · refine ⟨?_, h.ge, hnds.keep (grown_store w' R 2 v') (fun k hk => ?_) (fun i p k hp hk => ?_), hoffv, ?_⟩
    · simp [World.setCell, Array.getElem?_modify, hblk]
    · injection hk with hk; subst hk; exact hoffv
    · injection hk with hk; subst hk
      rcases snoc_look hp with ⟨rfl, rfl⟩ | ⟨hi, hp⟩
      · intro e; cases e
      · exact h1.offk i p hp
    · intro i p hp
      rcases snoc_look hp with ⟨rfl, rfl⟩ | ⟨hi, hp⟩
      · intro e; cases e
      · exact h1.offk i p hp
  · intro k hk hne
    have hk1 : k < W1.heap.size := Nat.lt_of_lt_of_le hk hb1.size
    refine ⟨(hg.block k hk1 (fun e => hne e.symm)).trans (hb1.block k hk), ?_⟩
    rcases hv with hv | hv
    · rw [hv]; exact hne
    · rw [hv]; intro e; injection e with e; omega
end
section
variable {B : Nat} {W W' : World} {R : Nat} {A : Option Addr} {n c s : Nat} {P : List NK} {g cap : Nat}
/-- A Kid more of node i: its number is how many nodes there are. W1: behind the draw that the statement makes. -/
theorem St.kid (h : St B W R A n c s (.slice (some ⟨g, 0, none⟩) P.length cap) P) {i : Nat} {p : NK} (hp : P[i]? = some p) (hn : P.length ≤ 400000) (hk : p.1.kids.length ≤ 400000) :
    ∃ k' w', (Builtin.append_ #[36, 36] 36 #[p.2, .slice (some ⟨W.heap.size, 0, none⟩) 1 1]).run Tryz.prog (W.alloc (.cells #[.int .i64 (P.length : Int)] 3)) = .ok k' w' ∧
    w'.cell? ⟨g, i * 10 + 9, none⟩ = some p.2 ∧ w'.frozen? ⟨g, i * 10 + 9, none⟩ = false ∧ (∃ A' cap', k' = .slice A' (p.1.kids.length + 1) cap') ∧ Below B W w' ∧
    St B (w'.setCell ⟨g, i * 10 + 9, none⟩ k') R A n c s (.slice (some ⟨g, 0, none⟩) (P.set i ({ p.1 with kids := p.1.kids ++ [P.length] }, k')).length cap) (P.set i ({ p.1 with kids := p.1.kids ++ [P.length] }, k')) ∧
    ∀ k, k < W.heap.size → p.2.ownBlock ≠ some k → w'.heap[k]? = W.heap[k]? ∧ k'.ownBlock ≠ some k := by
  obtain ⟨W1, hW1⟩ : ∃ W1, W.alloc (.cells #[.int .i64 (P.length : Int)] 3) = W1 := ⟨_, rfl⟩
  have hb1 : Below W.heap.size W W1 := by rw [← hW1]; exact (Below.refl _ _).alloc (Nat.le_refl _) _
  have h1 := h.below hb1
  have hs1 : W.heap.size < W1.heap.size := by rw [← hW1]; simp
  have hrd : RdC W1 (some ⟨W.heap.size, 0, none⟩) [.int .i64 (P.length : Int)] := by
    rw [← hW1]
    refine RdC.new rfl fun k u hk => ?_
    rw [← hk, List.getElem?_toArray]
  obtain ⟨k', w', hrun, hown, hg, hv⟩ := run_append_rows Tryz.underlying36 int_info rfl (by omega) (by omega) W1 B p.2 p.1.kids.length (kidC p.1.kids) (h1.nds.kid i p hp) h1.le (some ⟨W.heap.size, 0, none⟩) 1 1 [.int .i64 (P.length : Int)] rfl hrd
    (by intro u hu; simp at hu; subst hu; rfl) (by omega)
  rw [hW1]
  have hkR : ∀ k, p.2.ownBlock = some k → k ≠ R := fun k hk e => h1.offk i p hp (by rw [hk, e])
  have hkg : ∀ k, p.2.ownBlock = some k → k ≠ g := fun k hk e => h1.nds.off i p k hp hk (by rw [e]; rfl)
  have hgl : g < W1.heap.size := (h1.nds.blockB (k := g) rfl).2
  have hgB : B ≤ g := (h1.nds.blockB (k := g) rfl).1
  have hR : w'.heap[R]? = W1.heap[R]? := hg.block R h1.lt (fun e => hkR R e.symm rfl)
  have hG : w'.heap[g]? = W1.heap[g]? := hg.block g hgl (fun e => hkg g e.symm rfl)
  have k'R : k'.ownBlock ≠ some R := by
    rcases hv with hv | hv
    · rw [hv]; exact h1.offk i p hp
    · rw [hv]; intro e; injection e with e; have := h1.lt; omega
  have k'g : k'.ownBlock ≠ some g := by
    rcases hv with hv | hv
    · rw [hv]; exact fun e => hkg g e rfl
    · rw [hv]; intro e; injection e with e; omega
  have hi := (List.getElem?_eq_some_iff.1 hp).1
  have hrow : w'.ownsRow B 47 10 (.slice (some ⟨g, 0, none⟩) P.length cap) P.length (ndsC P) := own_kept h1.nds.row hg (fun k hk hx => by
    simp only [Value.ownBlock, Option.some.injEq] at hx
    exact hkg k hk hx.symm)
  have hgs := grown_store w' g (i * 10 + 9) k'
  refine ⟨k', w', hrun, ?_, ?_, ?_, ?_, ?_, ?_⟩
  · rw [hrow.cellAt _ (by omega), ndsC_at P i 9 p hp (by omega)]; rfl
  · exact hrow.frozenAt _
  · obtain ⟨A', cap', e, _⟩ := own_form hown
    exact ⟨A', cap', e⟩
  · exact (hb1.mono h.le).grown hg h1.le (fun k hk => (h1.nds.kidB hp hk).1)
  · refine ⟨?_, h.ge, ⟨?_, ?_, ?_, ?_⟩, fun e => h1.ne (by simpa [Value.ownBlock] using e), ?_⟩
    · rw [Below.heap_setCell _ _ _ _ (fun e => h1.ne e.symm), hR, List.length_set]; exact h1.blk
    · rw [List.length_set, ← ndsC_set P i 9 p ({ p.1 with kids := p.1.kids ++ [P.length] }, k') k' hp (by omega) rfl]
      exact (hrow.stored _ _).1
    · intro q y hy
      rcases set_look hp hy with ⟨rfl, rfl⟩ | ⟨hq, hy⟩
      · show World.ownsRow _ _ _ _ k' (p.1.kids ++ [P.length]).length (kidC (p.1.kids ++ [P.length]))
        have e : kidC (p.1.kids ++ [P.length]) = kidC p.1.kids ++ [.int .i64 (P.length : Int)] := by simp [kidC]
        rw [List.length_append, e]
        exact own_kept hown hgs (fun k hk hx => by injection hk with hk; subst hk; exact k'g hx)
      · have o1 := own_kept (h1.nds.kid q y hy) hg (fun k hk hx => h1.nds.apart q i y p k hy hp hq hx hk)
        exact own_kept o1 hgs (fun k hk hx => by
          injection hk with hk
          subst hk
          exact h1.nds.off q y _ hy hx rfl)
    · intro q r y z k hy hz hne hk
      rcases set_look hp hy with ⟨e1, e2⟩ | ⟨hq, hy2⟩
      · rcases set_look hp hz with ⟨e3, e4⟩ | ⟨hr, hz2⟩
        · exact absurd (e1.trans e3.symm) hne
        · rw [e2] at hk
          change k'.ownBlock = some k at hk
          rcases hv with hv | hv
          · rw [hv] at hk; exact h1.nds.apart i r p z k hp hz2 (fun e => hr e.symm) hk
          · rw [hv] at hk; injection hk with hk
            intro e
            have := (h1.nds.kidB hz2 e).2
            omega
      · rcases set_look hp hz with ⟨e3, e4⟩ | ⟨hr, hz2⟩
        · rw [e4]
          show k'.ownBlock ≠ some k
          rcases hv with hv | hv
          · rw [hv]; exact h1.nds.apart q i y p k hy2 hp hq hk
          · rw [hv]; intro e; injection e with e
            have := (h1.nds.kidB hy2 hk).2
            omega
        · exact h1.nds.apart q r y z k hy2 hz2 hne hk
    · intro q y k hy hk
      rcases set_look hp hy with ⟨rfl, rfl⟩ | ⟨hq, hy⟩
      · change k'.ownBlock = some k at hk
        intro e
        simp only [Value.ownBlock, Option.some.injEq] at e
        exact k'g (by rw [hk, e])
      · exact h1.nds.off q y k hy hk
    · intro q y hy
      rcases set_look hp hy with ⟨rfl, rfl⟩ | ⟨hq, hy⟩
      · exact k'R
      · exact h1.offk q y hy
  · intro k hk hne
    have hk1 : k < W1.heap.size := Nat.lt_of_lt_of_le hk hb1.size
    refine ⟨(hg.block k hk1 (fun e => hne e.symm)).trans (hb1.block k hk), ?_⟩
    rcases hv with hv | hv
    · rw [hv]; exact hne
    · rw [hv]; intro e; injection e with e; omega
end
/-- The bytes, and the package variables, in the world ahead of the reader. -/
structure Env (w : World) (A : Option Addr) (n c : Nat) (b : List Int) : Prop where
  len : b.length = n
  le : n ≤ c
  cap : c ≤ 9223372036854775807
  nil : A = none → c = 0
  byte : Byte b
  rd : RdB w A b
  small : n ≤ 100000
  sh : Shorts w
  mx : MaxL w
/-- Blocks of our own that the reader has nothing to do with, and what they hold. -/
abbrev Fr := List (Nat × Obj)
/-- The reader in a later world. -/
structure Rd (w : World) (F : Fr) (R : Nat) (A : Option Addr) (n c : Nat) (W : World) (s : Nat) (v : Value) (P : List NK) : Prop where
  st : St w.heap.size W R A n c s v P
  bel : Below w.heap.size w W
  hs : s ≤ n
  fr : ∀ q ∈ F, W.heap[q.1]? = some q.2 ∧ q.1 ≠ R ∧ v.ownBlock ≠ some q.1 ∧ ∀ (i : Nat) (p : NK), P[i]? = some p → p.2.ownBlock ≠ some q.1
def lst (P : List NK) : List Nd := P.map Prod.fst
theorem lst_len (P : List NK) : (lst P).length = P.length := by simp [lst]
theorem lst_app (P Q : List NK) : lst (P ++ Q) = lst P ++ lst Q := by simp [lst]
theorem lst_at {P : List NK} {i : Nat} {x : Nd} (h : (lst P)[i]? = some x) : ∃ k, P[i]? = some (x, k) := by
  simp only [lst, List.getElem?_map, Option.map_eq_some_iff] at h
  obtain ⟨⟨y, k⟩, h1, rfl⟩ := h
  exact ⟨k, h1⟩
section
variable {w : World} {F : Fr} {R : Nat} {A : Option Addr} {n c : Nat} {W W' : World} {s : Nat} {v : Value} {P : List NK} {b : List Int}
theorem Rd.below (h : Rd w F R A n c W s v P) (hb : Below W.heap.size W W') : Rd w F R A n c W' s v P := ⟨h.st.below hb, h.bel.trans (hb.mono h.bel.size), h.hs, fun q hq => ⟨(hb.block q.1 (Array.getElem?_eq_some_iff.1 (h.fr q hq).1).1).trans (h.fr q hq).1, (h.fr q hq).2⟩⟩
theorem Rd.move (h : Rd w F R A n c W s v P) (s' : Nat) (hs : s' ≤ n) : Rd w F R A n c (W.setCell ⟨R, 1, none⟩ (.int .i64 (s' : Int))) s' v P := ⟨h.st.move s', h.bel.setCell (p := ⟨R, 1, none⟩) h.st.ge _, hs, fun q hq => ⟨(Below.heap_setCell _ _ _ _ (h.fr q hq).2.1).trans (h.fr q hq).1, (h.fr q hq).2⟩⟩
theorem Rd.draws (h : Rd w F R A n c W s v P) (m : Nat) : Rd w F R A n c (W.drewN m) s v P := h.below (below_draws (Below.refl _ _) m)
theorem Rd.rdb (h : Rd w F R A n c W s v P) (E : Env w A n c b) : RdB W A b := E.rd.below h.bel
end
theorem u8s_byt (v : ByteArray) : u8s (byt v) = v.toList := by rw [← u8s_list, strOfNums_byt]
set_option maxHeartbeats 2000000 in
theorem tag_at {w W : World} (hb : Below w.heap.size w W) (kind style : Int) (t v : ByteArray) (hv : v.size ≤ 1000000) (r : ByteArray) (h : strOfNums (inTag kind style (byt t) (byt v)) = r) :
    Calls Tryz.prog 54 #[.int .i64 kind, .int .i64 style, .string t, .string v] W (TxtP r w) := by
  have HB := Lib.hid hb
  have HH := Lib.hid h
  clear hb h
  have i1 : (t.toList.isEmpty = true) ↔ byt t = [] := by rw [Pr.empty_byt, List.isEmpty_iff]
  have i2 : ((t.toList == [33]) = true) ↔ byt t = [33] := by
    rw [show ([33] : List UInt8) = (⟨#[33]⟩ : ByteArray).toList from (mk_list [33]).symm, Pr.list_byt, beq_iff_eq]; rfl
  by_cases q1 : byt t = []
  · have e1 : t.toList.isEmpty = true := i1.2 q1
    have e1' : t.toList = [] := List.isEmpty_iff.1 e1
    have hT : inTag kind style (byt t) (byt v) = if kind = 2 then [33, 33, 115, 101, 113] else if kind = 3 then [33, 33, 109, 97, 112] else if kind = 4 then [] else if kind = 0 then [33, 33, 110, 117, 108, 108] else if kind = 1 ∧ style = 1 then nums (resF v.toList) else [33, 33, 115, 116, 114] := by
      rw [← u8s_byt]; unfold inTag; rw [q1]; simp
    rw [hT] at HH
    clear hT i1 i2 q1
    by_cases k2 : kind = 2
    · subst k2
      obtain rfl : r = ⟨#[33, 33, 115, 101, 113]⟩ := HH.out.symm
      clear HH
      go_enter Tryz.func54, Tryz.ntmps54
      go_wp2_with fail
      go_ret
      exact ⟨rfl, HB.out⟩
    · rw [if_neg k2] at HH
      by_cases k3 : kind = 3
      · subst k3
        obtain rfl : r = ⟨#[33, 33, 109, 97, 112]⟩ := HH.out.symm
        clear HH
        go_enter Tryz.func54, Tryz.ntmps54
        go_wp2_with fail
        go_ret
        exact ⟨rfl, HB.out⟩
      · rw [if_neg k3] at HH
        by_cases k4 : kind = 4
        · subst k4
          obtain rfl : r = ⟨#[]⟩ := HH.out.symm
          clear HH
          go_enter Tryz.func54, Tryz.ntmps54
          go_wp2_with fail
          go_ret
          exact ⟨rfl, HB.out⟩
        · rw [if_neg k4] at HH
          by_cases k0 : kind = 0
          · subst k0
            obtain rfl : r = ⟨#[33, 33, 110, 117, 108, 108]⟩ := HH.out.symm
            clear HH
            go_enter Tryz.func54, Tryz.ntmps54
            go_wp2_with fail
            go_ret
            exact ⟨rfl, HB.out⟩
          · rw [if_neg k0] at HH
            have d2 : (kind == 2) = false := beq_eq_false_iff_ne.2 k2
            have d3 : (kind == 3) = false := beq_eq_false_iff_ne.2 k3
            have d4 : (kind == 4) = false := beq_eq_false_iff_ne.2 k4
            have d0 : (kind == 0) = false := beq_eq_false_iff_ne.2 k0
            by_cases k1 : kind = 1 ∧ style = 1
            · rw [if_pos k1] at HH
              obtain ⟨rfl, rfl⟩ := k1
              have HRS := Lib.hid (res_at HB.out v (by omega) r (by rw [← HH.out, nums_str, mk_list]))
              clear HH k2 k3 k4 k0 d2 d3 d4 d0
              go_enter Tryz.func54, Tryz.ntmps54
              go_wp2_with fail
              refine HRS.out.mono ?_
              rintro e w1 ⟨rfl, hb1⟩
              have HB1 := Lib.hid hb1
              clear hb1
              go_wp2_with fail
              go_ret
              exact ⟨rfl, HB1.out⟩
            · rw [if_neg k1] at HH
              obtain rfl : r = ⟨#[33, 33, 115, 116, 114]⟩ := HH.out.symm
              clear HH
              by_cases k5 : kind = 1
              · subst k5
                have ds : (style == 1) = false := beq_eq_false_iff_ne.2 (fun e => k1 ⟨rfl, e⟩)
                clear k1 k2 k3 k4 k0 d2 d3 d4 d0
                go_enter Tryz.func54, Tryz.ntmps54
                go_wp2_with fail
                go_ret
                exact ⟨rfl, HB.out⟩
              · have d1 : (kind == 1) = false := beq_eq_false_iff_ne.2 k5
                clear k1 k2 k3 k4 k0 k5
                go_enter Tryz.func54, Tryz.ntmps54
                go_wp2_with fail
                go_ret
                exact ⟨rfl, HB.out⟩
  · have e1 : t.toList.isEmpty = false := by
      cases h : t.toList.isEmpty
      · rfl
      · exact absurd (i1.1 h) q1
    have e1' : t.toList ≠ [] := fun h => by rw [h] at e1; cases e1
    by_cases q2 : byt t = [33]
    · have e2 : (t.toList == [33]) = true := i2.2 q2
      have e2' : t.toList = [33] := beq_iff_eq.1 e2
      have hT : inTag kind style (byt t) (byt v) = if kind = 2 then [33, 33, 115, 101, 113] else if kind = 3 then [33, 33, 109, 97, 112] else if kind = 4 then [] else [33, 33, 115, 116, 114] := by
        unfold inTag; rw [q2]; simp
      rw [hT] at HH
      clear hT i1 i2 q1 q2
      by_cases k2 : kind = 2
      · subst k2
        obtain rfl : r = ⟨#[33, 33, 115, 101, 113]⟩ := HH.out.symm
        clear HH
        go_enter Tryz.func54, Tryz.ntmps54
        go_wp2_with fail
        go_ret
        exact ⟨rfl, HB.out⟩
      · rw [if_neg k2] at HH
        by_cases k3 : kind = 3
        · subst k3
          obtain rfl : r = ⟨#[33, 33, 109, 97, 112]⟩ := HH.out.symm
          clear HH
          go_enter Tryz.func54, Tryz.ntmps54
          go_wp2_with fail
          go_ret
          exact ⟨rfl, HB.out⟩
        · rw [if_neg k3] at HH
          by_cases k4 : kind = 4
          · subst k4
            obtain rfl : r = ⟨#[]⟩ := HH.out.symm
            clear HH
            go_enter Tryz.func54, Tryz.ntmps54
            go_wp2_with fail
            go_ret
            exact ⟨rfl, HB.out⟩
          · rw [if_neg k4] at HH
            obtain rfl : r = ⟨#[33, 33, 115, 116, 114]⟩ := HH.out.symm
            clear HH
            have d2 : (kind == 2) = false := beq_eq_false_iff_ne.2 k2
            have d3 : (kind == 3) = false := beq_eq_false_iff_ne.2 k3
            have d4 : (kind == 4) = false := beq_eq_false_iff_ne.2 k4
            clear k2 k3 k4
            by_cases k0 : kind = 0
            · subst k0
              clear d2 d3 d4
              go_enter Tryz.func54, Tryz.ntmps54
              go_wp2_with fail
              go_ret
              exact ⟨rfl, HB.out⟩
            · have d0 : (kind == 0) = false := beq_eq_false_iff_ne.2 k0
              clear k0
              by_cases k1 : kind = 1
              · subst k1
                clear d2 d3 d4 d0
                by_cases ks : style = 1
                · subst ks
                  go_enter Tryz.func54, Tryz.ntmps54
                  go_wp2_with fail
                  go_ret
                  exact ⟨rfl, HB.out⟩
                · have ds : (style == 1) = false := beq_eq_false_iff_ne.2 ks
                  clear ks
                  go_enter Tryz.func54, Tryz.ntmps54
                  go_wp2_with fail
                  go_ret
                  exact ⟨rfl, HB.out⟩
              · have d1 : (kind == 1) = false := beq_eq_false_iff_ne.2 k1
                clear k1
                go_enter Tryz.func54, Tryz.ntmps54
                go_wp2_with fail
                go_ret
                exact ⟨rfl, HB.out⟩
    · have e2 : (t.toList == [33]) = false := by
        cases h : t.toList == [33]
        · rfl
        · exact absurd (i2.1 h) q2
      have e2' : t.toList ≠ [33] := fun h => by rw [h] at e2; simp at e2
      obtain rfl : r = t := by
        rw [← HH.out]; unfold inTag; rw [if_pos ⟨q1, q2⟩, strOfNums_byt]
      clear HH i1 i2 q1 q2
      go_enter Tryz.func54, Tryz.ntmps54
      go_wp2_with fail
      go_ret
      exact ⟨rfl, HB.out⟩
section
variable {w : World} {F : Fr} {R : Nat} {A : Option Addr} {n c : Nat} {W W' : World} {s g m cap : Nat} {P : List NK}
/-- A cell of a node, other than its Kids, stored. -/
theorem Rd.set (h : Rd w F R A n c W s (.slice (some ⟨g, 0, none⟩) m cap) P) (hm : P.length = m) {i : Nat} {p p' : NK} (hp : P[i]? = some p) (j : Nat) (hj : j < 10) (u : Value) (hc : ndC p' = (ndC p).set j u) (h2 : p'.2 = p.2) (h3 : p'.1.kids = p.1.kids) :
    Rd w F R A n c (W.setCell ⟨g, i * 10 + j, none⟩ u) s (.slice (some ⟨g, 0, none⟩) m cap) (P.set i p') ∧ (P.set i p').length = m ∧ (P.set i p')[i]? = some p' := by
  subst hm
  have hi := (List.getElem?_eq_some_iff.1 hp).1
  have hg := (h.st.nds.blockB (k := g) rfl).1
  refine ⟨⟨?_, h.bel.setCell (p := ⟨g, i * 10 + j, none⟩) hg u, h.hs, fun q hq => ?_⟩, by simp, List.getElem?_set_self hi⟩
  case refine_2 =>
    obtain ⟨f1, f2, f3, f4⟩ := h.fr q hq
    refine ⟨(Below.heap_setCell _ _ _ _ (fun e => f3 (by rw [e]; rfl))).trans f1, f2, f3, fun j y hy => ?_⟩
    rcases set_look hp hy with ⟨_, e⟩ | ⟨_, hy⟩
    · rw [e, h2]; exact f4 i p hp
    · exact f4 j y hy
  have := h.st.set hp j hj u hc h2 h3
  rw [List.length_set] at this
  exact this
theorem Rd.cell (h : Rd w F R A n c W s (.slice (some ⟨g, 0, none⟩) m cap) P) (hm : P.length = m) {i : Nat} {p : NK} (hp : P[i]? = some p) (j : Nat) (u : Value) (hu : (ndC p)[j]? = some u) : W.cell? ⟨g, i * 10 + j, none⟩ = some u := by
  subst hm; exact h.st.nds.cell hp j u hu
theorem Rd.frozen (h : Rd w F R A n c W s (.slice (some ⟨g, 0, none⟩) m cap) P) (hm : P.length = m) (j : Nat) : W.frozen? ⟨g, j, none⟩ = false := by
  subst hm; exact h.st.nds.frozen j
theorem Rd.form {v : Value} (h : Rd w F R A n c W s v P) (h0 : 0 < P.length) : ∃ g cap, v = .slice (some ⟨g, 0, none⟩) P.length cap ∧ P.length ≤ cap ∧ cap ≤ 9223372036854775807 ∧ w.heap.size ≤ g ∧ g < W.heap.size := h.st.nds.form h0
end
/-- The node filled, by its props and its place. -/
def fin (x : Nd) (t a : ByteArray) (st en : Nat) : Nd := inFin x (byt t) (byt a) st en
set_option maxHeartbeats 4000000 in
theorem finish_at {w : World} {W : World} {F : Fr} {R : Nat} {A : Option Addr} {n c s : Nat} {v : Value} {P : List NK} (h : Rd w F R A n c W s v P) {i : Nat} {x : Nd} {k : Value} (hp : P[i]? = some (x, k)) (st : Nat) (t a : ByteArray) (hv : Byte x.value) (hvl : x.value.length ≤ 1000000) :
    Calls Tryz.prog 36 #[.pointer (some ⟨R, 0, none⟩), .int .i64 (i : Int), .int .i64 (st : Int), .agg #[.string t, .string a]] W fun e W' => e = .returned (.tuple #[]) ∧ ∃ v', Rd w F R A n c W' s v' (P.set i (fin x t a st s, k)) := by
  have hi := (List.getElem?_eq_some_iff.1 hp).1
  obtain ⟨g, cap, rfl, hg1, hg2, hg3, hg4⟩ := h.form (by omega)
  obtain ⟨l, hl⟩ : ∃ l, P.length = l := ⟨_, rfl⟩
  rw [hl] at h hi hg1
  obtain ⟨W1, hW1⟩ : ∃ W1, W.alloc (.cells #[.string t, .string a] 70) = W1 := ⟨_, rfl⟩
  have hb1 : Below W.heap.size W W1 := by rw [← hW1]; exact (Below.refl _ _).alloc (Nat.le_refl _) _
  have h1 := h.below hb1
  have hnew : W1.heap[W.heap.size]? = some (.cells #[.string t, .string a] 70) := by rw [← hW1]; exact heap_alloc_new _ _
  have hs1 : W.heap.size < W1.heap.size := (Array.getElem?_eq_some_iff.1 hnew).1
  obtain ⟨r, hr⟩ : ∃ r, strOfNums (inTag x.kind x.style (byt t) x.value) = r := ⟨_, rfl⟩
  have hr' : strOfNums (inTag x.kind x.style (byt t) (byt (strOfNums x.value))) = r := by rw [byt_strOfNums _ hv]; exact hr
  have hvs : (strOfNums x.value).size ≤ 1000000 := by rw [← byt_len, byt_strOfNums _ hv]; exact hvl
  have HRT := Lib.hid hr'
  have HR := Lib.hid hr
  have H1 := Lib.hid h1
  have HP := Lib.hid hp
  have HL := Lib.hid hl
  have HNEW := Lib.hid hnew
  have c2 := h1.st.c2
  have d : (i : Int) < (l : Int) := by omega
  have HS : Hid (∀ V, Below W1.heap.size W1 V → V.cell? ⟨g, i * 10, none⟩ = some (.int .i64 x.kind) ∧ V.cell? ⟨g, i * 10 + 1, none⟩ = some (.int .i64 x.style) ∧ V.cell? ⟨g, i * 10 + 4, none⟩ = some (.string (strOfNums x.value)) ∧ V.cell? ⟨W.heap.size, 0, none⟩ = some (.string t)) := fun V hV => by
    have h2 := H1.out.below hV
    exact ⟨h2.cell HL.out HP.out 0 _ rfl, h2.cell HL.out HP.out 1 _ rfl, h2.cell HL.out HP.out 4 _ rfl, cell_keep hV (by simp [World.cell?, HNEW.out])⟩
  generalize hvx : strOfNums x.value = vx at *
  have HVX := Lib.hid hvx
  clear h hp h1 hr hr' hb1 hl hnew hvx
  go_enter Tryz.func36, Tryz.ntmps36
  go_wp2_with fail
  go_region_held3 (fun V => V.cell? ⟨g, i * 10, none⟩ = some (.int .i64 x.kind) ∧ V.cell? ⟨g, i * 10 + 1, none⟩ = some (.int .i64 x.style) ∧ V.cell? ⟨g, i * 10 + 4, none⟩ = some (.string vx) ∧ V.cell? ⟨W.heap.size, 0, none⟩ = some (.string t))
    (first | exact HS.out _ (Below.refl _ _).drew | exact HS.out _ HQ.out | exact HSET.out)
    (first | (go_at_call 54; refine (tag_at (w := W1) (W := W1.drew) ((Below.refl _ _).drew) x.kind x.style t vx hvs r HRT.out).mono ?_; rintro e w1 ⟨rfl, hq⟩; have HQ := Lib.hid hq; have h2 := H1.out.below hq; have q2 := h2.cell HL.out HP.out 2 _ rfl; have z2 := h2.frozen HL.out (i * 10 + 2); have HSET : Hid ((w1.setCell ⟨g, i * 10 + 2, none⟩ (.string r)).cell? ⟨g, i * 10, none⟩ = some (.int .i64 x.kind) ∧ (w1.setCell ⟨g, i * 10 + 2, none⟩ (.string r)).cell? ⟨g, i * 10 + 1, none⟩ = some (.int .i64 x.style) ∧ (w1.setCell ⟨g, i * 10 + 2, none⟩ (.string r)).cell? ⟨g, i * 10 + 4, none⟩ = some (.string vx) ∧ (w1.setCell ⟨g, i * 10 + 2, none⟩ (.string r)).cell? ⟨W.heap.size, 0, none⟩ = some (.string t)) := (by rw [World.cell?_setCell_other _ _ _ _ (by simp), World.cell?_setCell_other _ _ _ _ (by simp), World.cell?_setCell_other _ _ _ _ (by simp), World.cell?_setCell_other _ _ _ _ (by intro e; injection e with e; omega)]; exact HS.out _ hq); clear hq h2))
  clear HSET q2 z2
  have hRg : R ≠ g := by
    have := H1.out.st.offv
    intro e; exact this (by rw [e]; rfl)
  have h2 := (H1.out.below HQ.out).set HL.out HP.out (p' := ({ x with tag := inTag x.kind x.style (byt t) x.value }, k)) 2 (by omega) (.string r) (by rw [← HR.out]; rfl) rfl rfl
  have hbx : w1.cell? ⟨W.heap.size, 1, none⟩ = some (.string a) := cell_keep HQ.out (by simp [World.cell?, HNEW.out])
  have hbx2 : (w1.setCell ⟨g, i * 10 + 2, none⟩ (.string r)).cell? ⟨W.heap.size, 1, none⟩ = some (.string a) := by
    rw [World.cell?_setCell_other _ _ _ _ (by intro e; injection e with e; omega)]; exact hbx
  generalize w1.setCell ⟨g, i * 10 + 2, none⟩ (.string r) = Y at *
  obtain ⟨h2, l2, p2⟩ := h2
  have y3 := h2.cell l2 p2 3 _ rfl
  have y5 := h2.cell l2 p2 5 _ rfl
  have y6 := h2.cell l2 p2 6 _ rfl
  have y7 := h2.cell l2 p2 7 _ rfl
  have y8 := h2.cell l2 p2 8 _ rfl
  have f3 := h2.frozen l2 (i * 10 + 3)
  have f5 := h2.frozen l2 (i * 10 + 5)
  have f6 := h2.frozen l2 (i * 10 + 6)
  have f7 := h2.frozen l2 (i * 10 + 7)
  have f8 := h2.frozen l2 (i * 10 + 8)
  have r1 := h2.st.c1
  obtain ⟨h3, l3, p3⟩ := h2.set l2 p2 (p' := ({ x with tag := inTag x.kind x.style (byt t) x.value, anchor := byt a }, k)) 3 (by omega) (.string a) (by simp [ndC, strOfNums_byt]) rfl rfl
  obtain ⟨h5, l5, p5⟩ := h3.set l3 p3 (p' := ({ x with tag := inTag x.kind x.style (byt t) x.value, anchor := byt a, st := st }, k)) 5 (by omega) (.int .i64 (st : Int)) rfl rfl rfl
  obtain ⟨h6, l6, p6⟩ := h5.set l5 p5 (p' := ({ x with tag := inTag x.kind x.style (byt t) x.value, anchor := byt a, st := st, en := s }, k)) 6 (by omega) (.int .i64 (s : Int)) rfl rfl rfl
  obtain ⟨h7, l7, p7⟩ := h6.set l6 p6 (p' := ({ x with tag := inTag x.kind x.style (byt t) x.value, anchor := byt a, st := st, en := s, hd := st }, k)) 7 (by omega) (.int .i64 (st : Int)) rfl rfl rfl
  obtain ⟨h8, l8, p8⟩ := h7.set l7 p7 (p' := (fin x t a st s, k)) 8 (by omega) (.int .i64 (st : Int)) rfl rfl rfl
  simp only [List.set_set] at h8
  have H8 := Lib.hid h8
  clear h2 h3 h5 h6 h7 h8 l2 l3 l5 l6 l7 l8 p2 p3 p5 p6 p7 p8 hbx
  go_wp2_with fail
  go_end0
  exact ⟨rfl, _, H8.out⟩
/-- A call that only reads: the reader is as it was. -/
def QuietP (v : Value) (w : World) (e : Ending) (w' : World) : Prop := e = .returned v ∧ ∃ m, w' = w.drewN m
theorem begins_any {w : World} {W : World} {F : Fr} {R : Nat} {A : Option Addr} {n c s : Nat} {v : Value} {P : List NK} {b : List Int} (E : Env w A n c b) (h : Rd w F R A n c W s v P) (x : Int) (hx : x ≠ 0) (t : Bool) (ht : (b.getD s 0 == x) = t) :
    Calls Tryz.prog 48 #[.pointer (some ⟨R, 0, none⟩), .int .u8 x] W (QuietP (.bool t) W) := by
  unfold QuietP
  have hr := h.rdb E
  have hl := E.len
  have hnc := E.le
  have hm := E.cap
  have hs := h.hs
  have c0 := h.st.c0
  have c1 := h.st.c1
  by_cases hlt : s < n
  · obtain ⟨a, off, rfl, hc⟩ := hr.addr (by omega)
    have cs := hc s (by omega)
    have d : (s : Int) < (n : Int) := by omega
    generalize b.getD s 0 = z at *
    clear h hr hc E
    go_enter Tryz.func48, Tryz.ntmps48
    go_wp2_with fail
    go_quiet (fail)
    go_wp2_with fail
    go_ret
    exact ⟨rfl, _, rfl⟩
  · have d : decide ((s : Int) < (n : Int)) = false := decide_eq_false (by omega)
    have hz : b.getD s 0 = 0 := by simp [List.getD, List.getElem?_eq_none (show b.length ≤ s by omega)]
    have ht' : t = false := by rw [← ht, hz]; exact beq_eq_false_iff_ne.2 (fun e => hx e.symm)
    subst ht'
    clear h hr ht hz E
    go_enter Tryz.func48, Tryz.ntmps48
    go_wp2_with fail
    go_quiet (fail)
    go_wp2_with fail
    go_ret
    exact ⟨rfl, _, rfl⟩
/-- skip: goes one on, where c stands. -/
theorem skip_any {w : World} {W : World} {F : Fr} {R : Nat} {A : Option Addr} {n c s : Nat} {v : Value} {P : List NK} {b : List Int} (E : Env w A n c b) (h : Rd w F R A n c W s v P) (x : Int) (hx : x ≠ 0) (t : Bool) (ht : (b.getD s 0 == x) = t) :
    Calls Tryz.prog 62 #[.pointer (some ⟨R, 0, none⟩), .int .u8 x] W fun e W' => e = .returned (.bool t) ∧ Rd w F R A n c W' (if t = true then s + 1 else s) v P := by
  have HC := Lib.hid (begins_any E h x hx t ht)
  have HH := Lib.hid h
  have hn := E.small
  have HE := Lib.hid E
  have HT := Lib.hid ht
  clear h ht E
  cases t
  · go_enter Tryz.func62, Tryz.ntmps62
    go_wp2_with fail
    refine HC.out.mono ?_
    rintro e w1 ⟨rfl, m, rfl⟩
    go_wp2_with fail
    go_ret
    exact ⟨rfl, HH.out.draws m⟩
  · have hlt : s < n := by
      have := getD_lt (b := b) (k := s) (by rw [beq_iff_eq.1 HT.out]; exact hx)
      rw [HE.out.len] at this; exact this
    go_enter Tryz.func62, Tryz.ntmps62
    go_wp2_with fail
    refine HC.out.mono ?_
    rintro e w1 ⟨rfl, m, rfl⟩
    have H1 := HH.out.draws m
    have H2 := Lib.hid (H1.move (s + 1) (by omega))
    have c1 := H1.st.c1
    have z1 := H1.st.z 1
    generalize W.drewN m = W1 at *
    clear H1 HC HH
    go_wp2_with fail
    go_ret
    refine ⟨rfl, ?_⟩
    have := H2.out
    rw [show ((s + 1 : Nat) : Int) = (s : Int) + 1 by omega] at this
    exact this
theorem space_q (z : Int) (W : World) (m : Nat) : Calls Tryz.prog 47 #[.int .u8 z] (W.drewN m) fun e w'' => e = .returned (.bool (z == 32)) ∧ ∃ m', w'' = W.drewN m' :=
  (space_any z (W.drewN m)).mono fun e w' ⟨h1, h2⟩ => ⟨by rw [h1]; rfl, m, h2.symm⟩
theorem inBlk_at {b : List Int} {k : Nat} (h : k < b.length) : inBlk b k = if b.getD k 0 = 32 then inBlk b (k + 1) else k := by
  unfold inBlk
  rw [blk_at h]
  split <;> omega
theorem inBlk_end {b : List Int} {k : Nat} (h : b.length ≤ k) : inBlk b k = k := by
  unfold inBlk; rw [blk_end h]; rfl
set_option maxHeartbeats 1000000 in
/-- blanks: goes behind all blanks. -/
theorem blanks_at {w : World} {W : World} {F : Fr} {R : Nat} {A : Option Addr} {n c s : Nat} {v : Value} {P : List NK} {b : List Int} (E : Env w A n c b) (h : Rd w F R A n c W s v P) (t : Nat) (ht : inBlk b s = t) :
    Calls Tryz.prog 33 #[.pointer (some ⟨R, 0, none⟩)] W fun e W' => e = .returned (.tuple #[]) ∧ Rd w F R A n c W' t v P := by
  have hl := E.len
  have hnc := E.le
  have hm := E.cap
  have hn := E.small
  have HE := Lib.hid E
  have HT := Lib.hid ht
  have HH := Lib.hid h
  have HL := Lib.hid hl
  have hs := h.hs
  clear E ht h hl
  go_enter Tryz.func33, Tryz.ntmps33
  go_wp2_with fail
  go_loopg [2] (n - s) (fun g u W1 => ∃ k : Nat, k + g = n ∧ Hid (Rd w F R A n c W1 k v P ∧ inBlk b k = t))
  case atStart => exact ⟨s, by omega, HH.out, HT.out⟩
  case round =>
    obtain ⟨k, hk, HK⟩ := hrel
    obtain ⟨W1, hW1⟩ : ∃ x, x = wr := ⟨_, rfl⟩
    subst hW1
    clear HH HT
    have c0 := HK.out.1.st.c0
    have c1 := HK.out.1.st.c1
    by_cases hlt : k < n
    · obtain ⟨a, off, rfl, hc⟩ := (HK.out.1.rdb HE.out).addr (by rw [HL.out]; omega)
      have cs := hc k (by rw [HL.out]; exact hlt)
      have d : (k : Int) < (n : Int) := by omega
      have hat := inBlk_at (b := b) (k := k) (by rw [HL.out]; exact hlt)
      generalize b.getD k 0 = z at *
      clear hc
      by_cases hz : z = 32
      · subst hz
        rw [if_pos rfl, HK.out.2] at hat
        have HAT := Lib.hid hat
        clear hat
        go_wp2_with fail
        go_quiet (first | (go_at_call 47; exact space_q _ _ _))
        have H1 := HK.out.1.draws nq
        have H2 := Lib.hid (H1.move (k + 1) (by omega))
        have k1 := H1.st.c1
        have z1 := H1.st.z 1
        generalize W1.drewN nq = W2 at *
        clear H1 HK c0 c1
        go_wp2_with fail
        go_roundg (n - (k + 1))
        case measure => omega
        case rel =>
          refine ⟨k + 1, by omega, ?_, HAT.out.symm⟩
          have := H2.out
          rw [show ((k + 1 : Nat) : Int) = (k : Int) + 1 by omega] at this
          exact this
      · rw [if_neg hz, HK.out.2] at hat
        have hz' : (z == 32) = false := beq_eq_false_iff_ne.2 hz
        subst hat
        go_wp2_with fail
        go_quiet (first | (go_at_call 47; exact space_q _ _ _))
        go_wp2_with fail
        go_end0
        exact ⟨rfl, HK.out.1.draws nq⟩
    · have d : decide ((k : Int) < (n : Int)) = false := decide_eq_false (by omega)
      have hat := inBlk_end (b := b) (k := k) (by rw [HL.out]; omega)
      rw [HK.out.2] at hat
      subst hat
      go_wp2_with fail
      go_quiet (fail)
      go_wp2_with fail
      go_end0
      exact ⟨rfl, HK.out.1.draws nq⟩
set_option maxHeartbeats 4000000 in
theorem alias_at {w : World} {W : World} {F : Fr} {R : Nat} {A : Option Addr} {n c s : Nat} {v : Value} {P : List NK} {b : List Int} (E : Env w A n c b) (h : Rd w F R A n c W s v P) {i : Nat} (hp : P[i]? = some nilK) :
    Calls Tryz.prog 49 #[.pointer (some ⟨R, 0, none⟩), .int .i64 (i : Int)] W fun e W' =>
      if (Pr.aliasF (b.drop s)).2.2 = true then e = .returned (.int .i64 0) ∧ ∃ v', Rd w F R A n c W' (s + (Pr.aliasF (b.drop s)).2.1) v' (P.set i ({ Nd.nil with kind := 4, value := (Pr.aliasF (b.drop s)).1 }, .slice none 0 0))
      else e = .returned (.int .i64 2) ∧ Below w.heap.size w W' := by
  have hi := (List.getElem?_eq_some_iff.1 hp).1
  obtain ⟨g, cap, rfl, hg1, hg2, hg3, hg4⟩ := h.form (by omega)
  obtain ⟨l, hl⟩ : ∃ l, P.length = l := ⟨_, rfl⟩
  rw [hl] at h hi hg1
  have hs := h.hs
  have hnc := E.le
  have hm := E.cap
  have hn := E.small
  obtain ⟨A', hsl, hA', hrd⟩ := slice_l A n c s b E.len hnc E.nil hs
  have HRD := Lib.hid hrd
  have HA' := Lib.hid hA'
  have hll : (b.drop s).length = n - s := by rw [List.length_drop, E.len]
  have HLL := Lib.hid hll
  have HE := Lib.hid E
  have HH := Lib.hid h
  have HP := Lib.hid hp
  have HL := Lib.hid hl
  have c0 := h.st.c0
  have c1 := h.st.c1
  have c2 := h.st.c2
  have d : (i : Int) < (l : Int) := by omega
  have hal := fun ho : (Pr.aliasF (b.drop s)).2.2 = true => alias_len ho
  rw [hll] at hal
  obtain ⟨q, hq⟩ : ∃ q, Pr.aliasF (b.drop s) = q := ⟨_, rfl⟩
  obtain ⟨nm, k, ok⟩ := q
  rw [hq] at hal
  simp only [hq]
  simp only [] at hal
  have HQ := Lib.hid hq
  have HS : Hid (∀ V, Below W.heap.size W V → V.cell? ⟨R, 0, none⟩ = some (.slice A n c) ∧ V.cell? ⟨R, 1, none⟩ = some (.int .i64 (s : Int))) := fun V hV => by
    have h2 := (HH.out.below hV).st
    exact ⟨h2.c0, h2.c1⟩
  have HC : Hid (Calls Tryz.prog 61 #[.slice A' (n - s) (c - s)] W.drew (Pr.AliasP (b.drop s) W.drew)) :=
    Pr.takeAlias_any A' (n - s) (c - s) (b.drop s) W.drew HLL.out (by omega) (by omega) HA'.out (HE.out.byte.drop s) (HRD.out _ (HH.out.rdb HE.out))
  clear E h hp hl hrd hA' hll hq
  go_enter Tryz.func49, Tryz.ntmps49
  go_wp2_with fail
  go_region_held3 (fun V => V.cell? ⟨R, 0, none⟩ = some (.slice A n c) ∧ V.cell? ⟨R, 1, none⟩ = some (.int .i64 (s : Int)))
    (first | exact HS.out _ (Below.refl _ _).drew | exact HS.out _ HB.out)
    (first | (go_at_call 61; refine HC.out.mono ?_; rintro e w1 ⟨nv, hnv, rfl, hq⟩; have HB : Hid (Below W.heap.size W w1) := below_step (Below.refl _ _).drew hq; have HNV := Lib.hid hnv; clear hq hnv; rw [HQ.out]; simp only []))
  have h2 := HH.out.below HB.out
  cases ok
  · clear HP hal
    go_wp2_with fail
    go_ret
    exact ⟨rfl, h2.bel⟩
  · have hkn := (hal rfl).2
    have hRg : R ≠ g := by
      have := h2.st.offv
      intro e; exact this (by rw [e]; rfl)
    have r1 := h2.st.c1
    have r2 := h2.st.c2
    have z1 := h2.st.z 1
    have y0 := h2.cell HL.out HP.out 0 _ rfl
    have y4 := h2.cell HL.out HP.out 4 _ rfl
    have f0 := h2.frozen HL.out (i * 10)
    have f4 := h2.frozen HL.out (i * 10 + 4)
    rw [Nat.add_zero] at y0
    have hnm : strOfNums nm = nv := by
      have := HNV.out
      rw [HQ.out] at this
      have e : byt nv = nm := this
      rw [← e, strOfNums_byt]
    obtain ⟨h3, l3, p3⟩ := h2.set HL.out HP.out (p' := ({ Nd.nil with kind := 4 }, .slice none 0 0)) 0 (by omega) (.int .i64 4) rfl rfl rfl
    obtain ⟨h4, l4, p4⟩ := h3.set l3 p3 (p' := ({ Nd.nil with kind := 4, value := nm }, .slice none 0 0)) 4 (by omega) (.string nv) (by rw [← hnm]; rfl) rfl rfl
    have h5 := h4.move (s + k) (by omega)
    simp only [List.set_set, Nat.add_zero] at h5
    rw [show ((s + k : Nat) : Int) = (s : Int) + (k : Int) by omega] at h5
    have H5 := Lib.hid h5
    clear h2 h3 h4 h5 l3 l4 p3 p4 HP hal c0 c1 c2 hnm
    go_wp2_with fail
    go_ret
    exact ⟨rfl, _, H5.out⟩
def leafNd (k st : Int) (v : List Int) : Nd := { Nd.nil with kind := k, style := st, value := v }
/-- What scalar leaves. -/
def LeafP (w : World) (F : Fr) (R : Nat) (A : Option Addr) (n c s : Nat) (P : List NK) (i : Nat) (o : Option (Int × Int × List Int × Nat)) (e : Ending) (W' : World) : Prop :=
  match o with
  | none => e = .returned (.int .i64 2) ∧ Below w.heap.size w W'
  | some (k, st, x, m) => e = .returned (.int .i64 0) ∧ ∃ v', Rd w F R A n c W' (s + m) v' (P.set i (leafNd k st x, .slice none 0 0))
set_option maxHeartbeats 4000000 in
theorem scal_dq {w : World} {W : World} {F : Fr} {R : Nat} {A : Option Addr} {n c s : Nat} {v : Value} {P : List NK} {b : List Int}
    (E : Env w A n c b) (h : Rd w F R A n c W s v P) {i : Nat} (hp : P[i]? = some nilK) (fl : Bool) (hq : b.getD s 0 = 34) (o : Option (List Int × Nat)) (ho : takeD (b.drop s) = o) :
    Calls Tryz.prog 53 #[.pointer (some ⟨R, 0, none⟩), .int .i64 (i : Int), .bool fl] W (LeafP w F R A n c s P i (o.map fun x => (1, 3, x.1, x.2))) := by
  have hi := (List.getElem?_eq_some_iff.1 hp).1
  obtain ⟨g, cap, rfl, hg1, hg2, hg3, hg4⟩ := h.form (by omega)
  obtain ⟨l, hl⟩ : ∃ l, P.length = l := ⟨_, rfl⟩
  rw [hl] at h hi hg1
  have hs := h.hs
  have hnc := E.le
  have hm := E.cap
  have hn := E.small
  obtain ⟨A', hsl, hA', hrd⟩ := slice_l A n c s b E.len hnc E.nil hs
  have HRD := Lib.hid hrd
  have HA' := Lib.hid hA'
  have hll : (b.drop s).length = n - s := by rw [List.length_drop, E.len]
  have HLL := Lib.hid hll
  have HE := Lib.hid E
  have HH := Lib.hid h
  have HP := Lib.hid hp
  have HL := Lib.hid hl
  have c0 := h.st.c0
  have c1 := h.st.c1
  have c2 := h.st.c2
  have d : (i : Int) < (l : Int) := by omega
  have HQ := Lib.hid hq
  have HO := Lib.hid ho
  have hol : ∀ x k, o = some (x, k) → k ≤ n - s := fun x k hx => by
    have := (takeD_len (ho.trans hx)).2
    rw [hll] at this; exact this
  clear E h hp hl hrd hA' hll hq ho
  go_enter Tryz.func53, Tryz.ntmps53
  go_wp2_with fail
  go_quiet (fail)
  have h1 := HH.out.draws nq
  generalize W.drewN nq = W1 at *
  have H1 := Lib.hid h1
  clear h1 c0 c1 c2 HH
  go_wp2_with fail
  refine (begins_any HE.out H1.out 34 (by decide) true (by rw [HQ.out]; rfl)).mono ?_
  rintro e w1 ⟨rfl, m1, rfl⟩
  have h2 := H1.out.draws m1
  generalize W1.drewN m1 = W3 at *
  clear H1
  have y0 := h2.cell HL.out HP.out 0 _ rfl
  have y1 := h2.cell HL.out HP.out 1 _ rfl
  have f0 := h2.frozen HL.out (i * 10)
  have f1 := h2.frozen HL.out (i * 10 + 1)
  rw [Nat.add_zero] at y0
  obtain ⟨h3, l3, p3⟩ := h2.set HL.out HP.out (p' := ({ Nd.nil with kind := 1 }, .slice none 0 0)) 0 (by omega) (.int .i64 1) rfl rfl rfl
  obtain ⟨h4, l4, p4⟩ := h3.set l3 p3 (p' := ({ Nd.nil with kind := 1, style := 3 }, .slice none 0 0)) 1 (by omega) (.int .i64 3) rfl rfl rfl
  simp only [List.set_set, Nat.add_zero] at h4 l4 p4
  have H4 := Lib.hid (And.intro h4 (And.intro l4 p4))
  clear h2 h3 h4 l3 l4 p3 p4
  go_wp2_with fail
  obtain ⟨h3, l3, p3⟩ := H4.out
  have hc : Calls Tryz.prog 66 #[.slice A' (n - s) (c - s)] ((W3.setCell ⟨g, i * 10, none⟩ (.int .i64 1)).setCell ⟨g, i * 10 + 1, none⟩ (.int .i64 3)) (TakeP o ((W3.setCell ⟨g, i * 10, none⟩ (.int .i64 1)).setCell ⟨g, i * 10 + 1, none⟩ (.int .i64 3))) :=
    take_any A' (n - s) (c - s) (b.drop s) _ HLL.out (by omega) (by omega) (by omega) (HE.out.byte.drop s) (HRD.out _ (h3.rdb HE.out)) (HE.out.sh.below h3.bel) o HO.out
  refine hc.mono ?_
  rintro e w4 ⟨nv, hnv, rfl, hb4⟩
  have h4 := h3.below hb4
  have y4 := h4.cell l3 p3 4 _ rfl
  have f4 := h4.frozen l3 (i * 10 + 4)
  have HNV := Lib.hid hnv
  have H4' := Lib.hid h4
  have H5 := Lib.hid (And.intro l3 p3)
  clear hc hb4 h3 l3 p3 h4 y0 y1 f0 f1 H4 hnv HP
  cases o with
  | none =>
    simp only [tkN, Option.isSome_none]
    have hbel : Below w.heap.size w (w4.setCell ⟨g, i * 10 + 4, none⟩ (.string nv)) := H4'.out.bel.setCell (p := ⟨g, i * 10 + 4, none⟩) hg3 _
    have HBEL := Lib.hid hbel
    clear hbel hol
    go_wp2_with fail
    go_ret
    exact ⟨rfl, HBEL.out⟩
  | some xk =>
    obtain ⟨x, k⟩ := xk
    simp only [tkN, Option.isSome_some]
    have hk := hol x k rfl
    have hnm : strOfNums x = nv := by
      have e : byt nv = x := HNV.out
      rw [← e, strOfNums_byt]
    obtain ⟨h5, l5, p5⟩ := H4'.out.set H5.out.1 H5.out.2 (p' := ({ Nd.nil with kind := 1, style := 3, value := x }, .slice none 0 0)) 4 (by omega) (.string nv) (by rw [← hnm]; rfl) rfl rfl
    have h6 := h5.move (s + k) (by omega)
    have hRg : R ≠ g := by
      have := H4'.out.st.offv
      intro e; exact this (by rw [e]; rfl)
    have r1 := h5.st.c1
    have z1 := h5.st.z 1
    simp only [List.set_set] at h6
    rw [show ((s + k : Nat) : Int) = (s : Int) + (k : Int) by omega] at h6
    have H6 := Lib.hid h6
    clear h5 h6 l5 p5 hnm hol H4' H5
    go_wp2_with fail
    go_ret
    exact ⟨rfl, _, H6.out⟩
set_option maxHeartbeats 4000000 in
theorem scal_sq {w : World} {W : World} {F : Fr} {R : Nat} {A : Option Addr} {n c s : Nat} {v : Value} {P : List NK} {b : List Int}
    (E : Env w A n c b) (h : Rd w F R A n c W s v P) {i : Nat} (hp : P[i]? = some nilK) (fl : Bool) (hq : b.getD s 0 = 39) (o : Option (List Int × Nat)) (ho : Sg.takeS (b.drop s) = o) :
    Calls Tryz.prog 53 #[.pointer (some ⟨R, 0, none⟩), .int .i64 (i : Int), .bool fl] W (LeafP w F R A n c s P i (o.map fun x => (1, 2, x.1, x.2))) := by
  have hi := (List.getElem?_eq_some_iff.1 hp).1
  obtain ⟨g, cap, rfl, hg1, hg2, hg3, hg4⟩ := h.form (by omega)
  obtain ⟨l, hl⟩ : ∃ l, P.length = l := ⟨_, rfl⟩
  rw [hl] at h hi hg1
  have hs := h.hs
  have hnc := E.le
  have hm := E.cap
  have hn := E.small
  obtain ⟨A', hsl, hA', hrd⟩ := slice_l A n c s b E.len hnc E.nil hs
  have HRD := Lib.hid hrd
  have HA' := Lib.hid hA'
  have hll : (b.drop s).length = n - s := by rw [List.length_drop, E.len]
  have HLL := Lib.hid hll
  have HE := Lib.hid E
  have HH := Lib.hid h
  have HP := Lib.hid hp
  have HL := Lib.hid hl
  have c0 := h.st.c0
  have c1 := h.st.c1
  have c2 := h.st.c2
  have d : (i : Int) < (l : Int) := by omega
  have HQ := Lib.hid hq
  have HO := Lib.hid ho
  have hol : ∀ x k, o = some (x, k) → k ≤ n - s := fun x k hx => by
    have := ((fun h => let g := Sg.takeS_sgl _ _ _ h; And.intro g.1 g.2.1) (ho.trans hx)).2
    rw [hll] at this; exact this
  clear E h hp hl hrd hA' hll hq ho
  go_enter Tryz.func53, Tryz.ntmps53
  go_wp2_with fail
  go_quiet (fail)
  have h1 := HH.out.draws nq
  generalize W.drewN nq = W1 at *
  have H1 := Lib.hid h1
  clear h1 c0 c1 c2 HH
  go_wp2_with fail
  refine (begins_any HE.out H1.out 34 (by decide) false (by rw [HQ.out]; rfl)).mono ?_
  rintro e w1 ⟨rfl, m1, rfl⟩
  have h1 := H1.out.draws m1
  generalize W1.drewN m1 = W2 at *
  have H2 := Lib.hid h1
  clear h1 H1
  go_wp2_with fail
  refine (begins_any HE.out H2.out 39 (by decide) true (by rw [HQ.out]; rfl)).mono ?_
  rintro e w1 ⟨rfl, m2, rfl⟩
  have h2 := H2.out.draws m2
  generalize W2.drewN m2 = W3 at *
  clear H2
  have y0 := h2.cell HL.out HP.out 0 _ rfl
  have y1 := h2.cell HL.out HP.out 1 _ rfl
  have f0 := h2.frozen HL.out (i * 10)
  have f1 := h2.frozen HL.out (i * 10 + 1)
  rw [Nat.add_zero] at y0
  obtain ⟨h3, l3, p3⟩ := h2.set HL.out HP.out (p' := ({ Nd.nil with kind := 1 }, .slice none 0 0)) 0 (by omega) (.int .i64 1) rfl rfl rfl
  obtain ⟨h4, l4, p4⟩ := h3.set l3 p3 (p' := ({ Nd.nil with kind := 1, style := 2 }, .slice none 0 0)) 1 (by omega) (.int .i64 2) rfl rfl rfl
  simp only [List.set_set, Nat.add_zero] at h4 l4 p4
  have H4 := Lib.hid (And.intro h4 (And.intro l4 p4))
  clear h2 h3 h4 l3 l4 p3 p4
  go_wp2_with fail
  obtain ⟨h3, l3, p3⟩ := H4.out
  have hc : Calls Tryz.prog 67 #[.slice A' (n - s) (c - s)] ((W3.setCell ⟨g, i * 10, none⟩ (.int .i64 1)).setCell ⟨g, i * 10 + 1, none⟩ (.int .i64 2)) (Sg.TakeP o ((W3.setCell ⟨g, i * 10, none⟩ (.int .i64 1)).setCell ⟨g, i * 10 + 1, none⟩ (.int .i64 2))) :=
    Sg.take_any A' (n - s) (c - s) (b.drop s) _ HLL.out (by omega) (by omega) (by omega) (HE.out.byte.drop s) (HRD.out _ (h3.rdb HE.out)) HA'.out (HE.out.mx.below h3.bel) o HO.out
  refine hc.mono ?_
  rintro e w4 ⟨nv, hnv, rfl, hb4⟩
  have h4 := h3.below hb4
  have y4 := h4.cell l3 p3 4 _ rfl
  have f4 := h4.frozen l3 (i * 10 + 4)
  have HNV := Lib.hid hnv
  have H4' := Lib.hid h4
  have H5 := Lib.hid (And.intro l3 p3)
  clear hc hb4 h3 l3 p3 h4 y0 y1 f0 f1 H4 hnv HP
  cases o with
  | none =>
    simp only [Sg.tkN, Option.isSome_none]
    have hbel : Below w.heap.size w (w4.setCell ⟨g, i * 10 + 4, none⟩ (.string nv)) := H4'.out.bel.setCell (p := ⟨g, i * 10 + 4, none⟩) hg3 _
    have HBEL := Lib.hid hbel
    clear hbel hol
    go_wp2_with fail
    go_ret
    exact ⟨rfl, HBEL.out⟩
  | some xk =>
    obtain ⟨x, k⟩ := xk
    simp only [Sg.tkN, Option.isSome_some]
    have hk := hol x k rfl
    have hnm : strOfNums x = nv := by
      have e : byt nv = x := HNV.out
      rw [← e, strOfNums_byt]
    obtain ⟨h5, l5, p5⟩ := H4'.out.set H5.out.1 H5.out.2 (p' := ({ Nd.nil with kind := 1, style := 2, value := x }, .slice none 0 0)) 4 (by omega) (.string nv) (by rw [← hnm]; rfl) rfl rfl
    have h6 := h5.move (s + k) (by omega)
    have hRg : R ≠ g := by
      have := H4'.out.st.offv
      intro e; exact this (by rw [e]; rfl)
    have r1 := h5.st.c1
    have z1 := h5.st.z 1
    simp only [List.set_set] at h6
    rw [show ((s + k : Nat) : Int) = (s : Int) + (k : Int) by omega] at h6
    have H6 := Lib.hid h6
    clear h5 h6 l5 p5 hnm hol H4' H5
    go_wp2_with fail
    go_ret
    exact ⟨rfl, _, H6.out⟩
set_option maxHeartbeats 4000000 in
theorem scal_none {w : World} {W : World} {F : Fr} {R : Nat} {A : Option Addr} {n c s : Nat} {v : Value} {P : List NK} {b : List Int}
    (E : Env w A n c b) (h : Rd w F R A n c W s v P) {i : Nat} (hp : P[i]? = some nilK) (fl : Bool) (hq : b.getD s 0 ≠ 34) (hq2 : b.getD s 0 ≠ 39) (hst : startF (b.drop s) fl = false) :
    Calls Tryz.prog 53 #[.pointer (some ⟨R, 0, none⟩), .int .i64 (i : Int), .bool fl] W (LeafP w F R A n c s P i (some (0, 0, [], 0))) := by
  have hi := (List.getElem?_eq_some_iff.1 hp).1
  obtain ⟨g, cap, rfl, hg1, hg2, hg3, hg4⟩ := h.form (by omega)
  obtain ⟨l, hl⟩ : ∃ l, P.length = l := ⟨_, rfl⟩
  rw [hl] at h hi hg1
  have hs := h.hs
  have hnc := E.le
  have hm := E.cap
  have hn := E.small
  obtain ⟨A', hsl, hA', hrd⟩ := slice_l A n c s b E.len hnc E.nil hs
  have HRD := Lib.hid hrd
  have HA' := Lib.hid hA'
  have hll : (b.drop s).length = n - s := by rw [List.length_drop, E.len]
  have HLL := Lib.hid hll
  have HE := Lib.hid E
  have HH := Lib.hid h
  have HP := Lib.hid hp
  have HL := Lib.hid hl
  have c0 := h.st.c0
  have c1 := h.st.c1
  have c2 := h.st.c2
  have d : (i : Int) < (l : Int) := by omega
  have HQ := Lib.hid hq
  have HQ2 := Lib.hid hq2
  have HST := Lib.hid hst
  clear E h hp hl hrd hA' hll hq hq2 hst
  go_enter Tryz.func53, Tryz.ntmps53
  go_wp2_with fail
  go_quiet (fail)
  have h1 := HH.out.draws nq
  generalize W.drewN nq = W1 at *
  have H1 := Lib.hid h1
  clear h1 c0 c1 c2 HH
  go_wp2_with fail
  refine (begins_any HE.out H1.out 34 (by decide) false (beq_eq_false_iff_ne.2 HQ.out)).mono ?_
  rintro e w1 ⟨rfl, m1, rfl⟩
  have h1 := H1.out.draws m1
  generalize W1.drewN m1 = W2 at *
  have H2 := Lib.hid h1
  clear h1 H1
  go_wp2_with fail
  refine (begins_any HE.out H2.out 39 (by decide) false (beq_eq_false_iff_ne.2 HQ2.out)).mono ?_
  rintro e w1 ⟨rfl, m2, rfl⟩
  have h2 := H2.out.draws m2
  generalize W2.drewN m2 = W3 at *
  have H3 := Lib.hid h2
  clear H2 h2
  go_wp2_with fail
  refine (starts_any A' (n - s) (c - s) (b.drop s) fl W3 HLL.out (by omega) (by omega) (HE.out.byte.drop s) (HRD.out _ (H3.out.rdb HE.out)) _ HST.out).mono ?_
  rintro e w4 ⟨rfl, hb4⟩
  have h2 := H3.out.below hb4
  have H4 := Lib.hid h2
  clear h2 hb4 H3
  have r1 := H4.out.st.c1
  have z1 := H4.out.st.z 1
  have h5 := H4.out.move s hs
  have hset : P.set i (leafNd 0 0 [], .slice none 0 0) = P := by
    apply List.ext_getElem?
    intro q
    by_cases e : i = q
    · subst e; rw [List.getElem?_set_self (by rw [HL.out]; exact hi), HP.out]; rfl
    · rw [List.getElem?_set_ne e]
  have H5 := Lib.hid (And.intro h5 hset)
  clear h5 hset HP
  go_wp2_with fail
  go_ret
  exact ⟨rfl, _, by rw [H5.out.2]; exact H5.out.1⟩
set_option maxHeartbeats 4000000 in
theorem scal_plain {w : World} {W : World} {F : Fr} {R : Nat} {A : Option Addr} {n c s : Nat} {v : Value} {P : List NK} {b : List Int}
    (E : Env w A n c b) (h : Rd w F R A n c W s v P) {i : Nat} (hp : P[i]? = some nilK) (fl : Bool) (hq : b.getD s 0 ≠ 34) (hq2 : b.getD s 0 ≠ 39) (hst : startF (b.drop s) fl = true) (k : Nat) (hk : lenF (b.drop s) fl = k) :
    Calls Tryz.prog 53 #[.pointer (some ⟨R, 0, none⟩), .int .i64 (i : Int), .bool fl] W (LeafP w F R A n c s P i (some (1, 1, (b.drop s).take k, k))) := by
  have hi := (List.getElem?_eq_some_iff.1 hp).1
  obtain ⟨g, cap, rfl, hg1, hg2, hg3, hg4⟩ := h.form (by omega)
  obtain ⟨l, hl⟩ : ∃ l, P.length = l := ⟨_, rfl⟩
  rw [hl] at h hi hg1
  have hs := h.hs
  have hnc := E.le
  have hm := E.cap
  have hn := E.small
  obtain ⟨A', hsl, hA', hrd⟩ := slice_l A n c s b E.len hnc E.nil hs
  have HRD := Lib.hid hrd
  have HA' := Lib.hid hA'
  have hll : (b.drop s).length = n - s := by rw [List.length_drop, E.len]
  have HLL := Lib.hid hll
  have HE := Lib.hid E
  have HH := Lib.hid h
  have HP := Lib.hid hp
  have HL := Lib.hid hl
  have c0 := h.st.c0
  have c1 := h.st.c1
  have c2 := h.st.c2
  have d : (i : Int) < (l : Int) := by omega
  have hkn : k ≤ n - s := by
    have := len_le (b.drop s) fl
    rw [hll, hk] at this; exact this
  have HK := Lib.hid hk
  clear hk
  have HQ := Lib.hid hq
  have HQ2 := Lib.hid hq2
  have HST := Lib.hid hst
  clear E h hp hl hrd hA' hll hq hq2 hst
  go_enter Tryz.func53, Tryz.ntmps53
  go_wp2_with fail
  go_quiet (fail)
  have h1 := HH.out.draws nq
  generalize W.drewN nq = W1 at *
  have H1 := Lib.hid h1
  clear h1 c0 c1 c2 HH
  go_wp2_with fail
  refine (begins_any HE.out H1.out 34 (by decide) false (beq_eq_false_iff_ne.2 HQ.out)).mono ?_
  rintro e w1 ⟨rfl, m1, rfl⟩
  have h1 := H1.out.draws m1
  generalize W1.drewN m1 = W2 at *
  have H2 := Lib.hid h1
  clear h1 H1
  go_wp2_with fail
  refine (begins_any HE.out H2.out 39 (by decide) false (beq_eq_false_iff_ne.2 HQ2.out)).mono ?_
  rintro e w1 ⟨rfl, m2, rfl⟩
  have h2 := H2.out.draws m2
  generalize W2.drewN m2 = W3 at *
  have H3 := Lib.hid h2
  clear H2 h2
  go_wp2_with fail
  refine (starts_any A' (n - s) (c - s) (b.drop s) fl W3 HLL.out (by omega) (by omega) (HE.out.byte.drop s) (HRD.out _ (H3.out.rdb HE.out)) _ HST.out).mono ?_
  rintro e w4 ⟨rfl, hb4⟩
  have h2 := H3.out.below hb4
  have H4 := Lib.hid h2
  clear h2 hb4 H3
  go_wp2_with fail
  refine (length_any A' (n - s) (c - s) (b.drop s) fl w4 HLL.out (by omega) (by omega) (HE.out.byte.drop s) (HRD.out _ (H4.out.rdb HE.out)) _ HK.out).mono ?_
  rintro e w5 ⟨rfl, hb5⟩
  have h2 := H4.out.below hb5
  clear hb5 H4
  have y0 := h2.cell HL.out HP.out 0 _ rfl
  have y1 := h2.cell HL.out HP.out 1 _ rfl
  have y4 := h2.cell HL.out HP.out 4 _ rfl
  have f0 := h2.frozen HL.out (i * 10)
  have f1 := h2.frozen HL.out (i * 10 + 1)
  have f4 := h2.frozen HL.out (i * 10 + 4)
  rw [Nat.add_zero] at y0
  have hRg : R ≠ g := by
    have := h2.st.offv
    intro e; exact this (by rw [e]; rfl)
  have r1 := h2.st.c1
  have z1 := h2.st.z 1
  obtain ⟨h3, l3, p3⟩ := h2.set HL.out HP.out (p' := ({ Nd.nil with kind := 1 }, .slice none 0 0)) 0 (by omega) (.int .i64 1) rfl rfl rfl
  obtain ⟨h4, l4, p4⟩ := h3.set l3 p3 (p' := ({ Nd.nil with kind := 1, style := 1 }, .slice none 0 0)) 1 (by omega) (.int .i64 1) rfl rfl rfl
  obtain ⟨h5, l5, p5⟩ := h4.set l4 p4 (p' := (leafNd 1 1 ((b.drop s).take k), .slice none 0 0)) 4 (by omega) (.string (strOfNums ((b.drop s).take k))) rfl rfl rfl
  have h6 := h5.move (s + k) (by omega)
  have hsl2 := slice_h A' (n - s) (c - s) k hkn (by omega) HA'.out
  have hcv : (convert 35 9 (.slice A' k (c - s))).run Tryz.prog ((w5.setCell ⟨g, i * 10, none⟩ (.int .i64 1)).setCell ⟨g, i * 10 + 1, none⟩ (.int .i64 1)) = .ok (.string (strOfNums ((b.drop s).take k))) ((w5.setCell ⟨g, i * 10, none⟩ (.int .i64 1)).setCell ⟨g, i * 10 + 1, none⟩ (.int .i64 1)) :=
    run_string_rd _ A' k (c - s) ((b.drop s).take k) (by rw [List.length_take, HLL.out]; omega) ((HRD.out _ (h4.rdb HE.out)).take k)
  simp only [List.set_set, Nat.add_zero] at h6
  rw [show ((s + k : Nat) : Int) = (s : Int) + (k : Int) by omega] at h6
  generalize strOfNums ((b.drop s).take k) = sv at *
  have H6 := Lib.hid h6
  clear h2 h3 h4 h5 h6 l3 l4 l5 p3 p4 p5 HP
  go_wp2_with fail
  go_ret
  exact ⟨rfl, _, H6.out⟩
theorem scalar_at {w : World} {W : World} {F : Fr} {R : Nat} {A : Option Addr} {n c s : Nat} {v : Value} {P : List NK} {b : List Int}
    (E : Env w A n c b) (h : Rd w F R A n c W s v P) {i : Nat} (hp : P[i]? = some nilK) (fl : Bool) :
    Calls Tryz.prog 53 #[.pointer (some ⟨R, 0, none⟩), .int .i64 (i : Int), .bool fl] W (LeafP w F R A n c s P i (inLeaf b fl s)) := by
  unfold inLeaf
  by_cases h1 : b.getD s 0 = 34
  · rw [if_pos h1]; exact scal_dq E h hp fl h1 _ rfl
  · rw [if_neg h1]
    by_cases h2 : b.getD s 0 = 39
    · rw [if_pos h2]; exact scal_sq E h hp fl h2 _ rfl
    · rw [if_neg h2]
      cases h3 : startF (b.drop s) fl with
      | true => exact scal_plain E h hp fl h1 h2 h3 _ rfl
      | false => exact scal_none E h hp fl h1 h2 h3
set_option maxHeartbeats 1000000 in
theorem add_at {w : World} {W : World} {F : Fr} {R : Nat} {A : Option Addr} {n c s : Nat} {v : Value} {P : List NK} (h : Rd w F R A n c W s v P) (hn : P.length ≤ 400000) :
    Calls Tryz.prog 34 #[.pointer (some ⟨R, 0, none⟩)] W fun e W' => e = .returned (.int .i64 (P.length : Int)) ∧ ∃ v', Rd w F R A n c W' s v' (P ++ [nilK]) := by
  obtain ⟨v', w', hrun, hc, hz, ⟨A', cap', rfl⟩, hb, hst, hfr⟩ := h.st.add hn
  have c2 := h.st.c2
  have hb2 := h.bel.trans hb
  have HB := Lib.hid (hb2.setCell (p := ⟨R, 2, none⟩) h.st.ge (.slice A' (P.length + 1) cap'))
  have HS := Lib.hid hst
  have HRUN := Lib.hid hrun
  have hs := h.hs
  have HFR : Hid (∀ q ∈ F, (w'.setCell ⟨R, 2, none⟩ (.slice A' (P.length + 1) cap')).heap[q.1]? = some q.2 ∧ q.1 ≠ R ∧ (Value.slice A' (P.length + 1) cap').ownBlock ≠ some q.1 ∧ ∀ (i : Nat) (p : NK), (P ++ [nilK])[i]? = some p → p.2.ownBlock ≠ some q.1) := fun q hq => by
    obtain ⟨f1, f2, f3, f4⟩ := h.fr q hq
    obtain ⟨g1, g2⟩ := hfr q.1 (Array.getElem?_eq_some_iff.1 f1).1 f3
    refine ⟨(Below.heap_setCell _ _ _ _ f2).trans (g1.trans f1), f2, g2, fun i p hp => ?_⟩
    rcases snoc_look hp with ⟨_, e⟩ | ⟨_, hp⟩
    · rw [e]; intro e; cases e
    · exact f4 i p hp
  have d2 := hst.c2
  clear hrun hb hst hb2 h hfr
  go_enter Tryz.func34, Tryz.ntmps34
  go_wp2_with (at_builtin; refine wpList_append_known rfl (.tmp 7) (.tmp 9) 25 rfl v (.slice (some ⟨W.heap.size, 0, none⟩) 1 1) _ w' rfl rfl HRUN.out ?_)
  go_ret
  exact ⟨rfl, _, HS.out, HB.out, hs, HFR.out⟩
theorem put_none (a : Act) (v : Value) : a.put none v = a := rfl
/-- What expect leaves: the parent has a Kid more. -/
def moreKid (P : List NK) (i : Nat) (p : NK) (k' : Value) : List NK := P.set i ({ p.1 with kids := p.1.kids ++ [P.length] }, k')
theorem append_run (a : Act) (o : Oper) (x y : Operand) (t u : TypeId) (ho : o.op = .call { callee := .builtin .append, args := #[x, y], argTypes := #[t, u] }) (v1 v2 v' : Value) (W W' : World) (hrun : (Builtin.append_ #[t, u] o.type #[v1, v2]).run Tryz.prog W = .ok v' W') (hx : a.eval x = v1) (hy : a.eval y = v2) :
    (execOp a.eval o).run Tryz.prog W = .ok (.value v') W' := by
  unfold execOp
  simp only [ho, resolve, invoke, builtin, Sem.run_bind, Sem.run_pure, Result.andThen_ok, List.map_toArray, List.map_cons, List.map_nil, hx, hy, hrun]
set_option maxHeartbeats 2000000 in
theorem expect_at {w : World} {W : World} {F : Fr} {R : Nat} {A : Option Addr} {n c s : Nat} {v : Value} {P : List NK} (h : Rd w F R A n c W s v P) (hn : P.length ≤ 400000) {i : Nat} {p : NK} (hp : P[i]? = some p) (hk : p.1.kids.length ≤ 400000) :
    Calls Tryz.prog 76 #[.pointer (some ⟨R, 0, none⟩), .int .i64 (i : Int)] W fun e W' => e = .returned (.tuple #[]) ∧ ∃ v' k', Rd w F R A n c W' s v' (moreKid P i p k') := by
  have hi := (List.getElem?_eq_some_iff.1 hp).1
  obtain ⟨g, cap, rfl, hg1, hg2, hg3, hg4⟩ := h.st.nds.form (by omega)
  have h1 : Rd w F R A n c W.drew s (.slice (some ⟨g, 0, none⟩) P.length cap) P := h.below (Below.refl _ _).drew
  obtain ⟨k', w', hrun0, hc, hz, ⟨A', cap', rfl⟩, hb, hst, hfr⟩ := h1.st.kid hp hn hk
  have hrun : (Builtin.append_ #[36, 36] 36 #[p.2, .slice (some ⟨W.heap.size, 0, none⟩) 1 1]).run Tryz.prog (W.drew.alloc (.cells #[.int .i64 (P.length : Int)] 3)) = .ok (.slice A' (p.1.kids.length + 1) cap') w' := hrun0
  clear hrun0
  have HB := Lib.hid ((h1.bel.trans hb).setCell (p := ⟨g, i * 10 + 9, none⟩) hg3 (.slice A' (p.1.kids.length + 1) cap'))
  have HS := Lib.hid hst
  have HFR : Hid (∀ q ∈ F, (w'.setCell ⟨g, i * 10 + 9, none⟩ (.slice A' (p.1.kids.length + 1) cap')).heap[q.1]? = some q.2 ∧ q.1 ≠ R ∧ (Value.slice (some ⟨g, 0, none⟩) (moreKid P i p (.slice A' (p.1.kids.length + 1) cap')).length cap).ownBlock ≠ some q.1 ∧ ∀ (j : Nat) (y : NK), (moreKid P i p (.slice A' (p.1.kids.length + 1) cap'))[j]? = some y → y.2.ownBlock ≠ some q.1) := fun q hq => by
    obtain ⟨f1, f2, f3, f4⟩ := h1.fr q hq
    obtain ⟨g1, g2⟩ := hfr q.1 (Array.getElem?_eq_some_iff.1 f1).1 (f4 i p hp)
    refine ⟨(Below.heap_setCell _ _ _ _ (fun e => f3 (by rw [e]; rfl))).trans (g1.trans f1), f2, fun e => f3 (by simpa [Value.ownBlock] using e), fun j y hy => ?_⟩
    rcases set_look hp hy with ⟨_, e⟩ | ⟨_, hy⟩
    · rw [e]; exact g2
    · exact f4 j y hy
  have hs := h.hs
  have c2 := h.st.c2
  have k9 := h.st.nds.cell hp 9 p.2 rfl
  have hR : w'.cell? ⟨R, 2, none⟩ = some (.slice (some ⟨g, 0, none⟩) P.length cap) := by
    have := hst.c2
    rw [List.length_set, World.cell?_setCell_other _ _ _ _ (by intro e; injection e with e; exact h.st.ne e)] at this
    exact this
  have hlt := h.st.lt
  have hS : W.drew.cell? ⟨R, 2, none⟩ = some (.slice (some ⟨g, 0, none⟩) P.length cap) ∧ W.drew.cell? ⟨g, i * 10 + 9, none⟩ = some p.2 := ⟨c2, k9⟩
  have hS1 : (W.drew.alloc (.cells #[.int .i64 (P.length : Int)] 3)).cell? ⟨R, 2, none⟩ = some (.slice (some ⟨g, 0, none⟩) P.length cap) ∧ (W.drew.alloc (.cells #[.int .i64 (P.length : Int)] 3)).cell? ⟨g, i * 10 + 9, none⟩ = some p.2 := by
    rw [World.cell?_alloc_lt _ _ _ (by exact hlt), World.cell?_alloc_lt _ _ _ (by exact hg4)]; exact hS
  have hS2 : w'.cell? ⟨R, 2, none⟩ = some (.slice (some ⟨g, 0, none⟩) P.length cap) ∧ w'.cell? ⟨g, i * 10 + 9, none⟩ = some p.2 := ⟨hR, hc⟩
  have d : (i : Int) < (P.length : Int) := by omega
  clear h hp h1 hst hb hfr
  go_enter Tryz.func76, Tryz.ntmps76
  go_wp2_with fail
  refine gen_act fun a0 hA => ?_
  have hsz : a0.tmps.size = 25 := by rw [hA]; rfl
  have e0 : a0.eval (.tmp 0) = .pointer (some ⟨R, 0, none⟩) := by rw [hA]; rfl
  have e4 : a0.eval (.tmp 4) = .pointer (some ⟨g, i * 10, none⟩) := by rw [hA]; rfl
  refine region_gate (fun V => V.cell? ⟨R, 2, none⟩ = some (.slice (some ⟨g, 0, none⟩) P.length cap) ∧ V.cell? ⟨g, i * 10 + 9, none⟩ = some p.2) 14 (by kernel_rfl) ?_
  change wpGate _ _ _ _ _ _ 15 _ _ _
  refine gate_take0 (i := 0) (v := (.pointer (some ⟨g, i * 10, none⟩))) rfl (by rfl) (by kernel_rfl) (by kernel_rfl) (by kernel_rfl) (fun _ _ _ h => h) rfl (fun V => by first | (simp [execOp, put_none, evp_same, evp_ne, szp, hsz, e0, e4]; done) | simp [execOp, put_none, evp_same, evp_ne, szp, hsz, e0, e4, go_sem]) hS ?_
  refine gate_take0 (i := 1) (v := (.pointer (some ⟨g, i * 10, none⟩))) rfl (by rfl) (by kernel_rfl) (by kernel_rfl) (by kernel_rfl) (fun _ _ _ h => h) rfl (fun V => by first | (simp [execOp, put_none, evp_same, evp_ne, szp, hsz, e0, e4]; done) | simp [execOp, put_none, evp_same, evp_ne, szp, hsz, e0, e4, go_sem]) hS ?_
  refine gate_take0 (i := 2) (v := (.pointer (some ⟨g, i * 10, none⟩))) rfl (by rfl) (by kernel_rfl) (by kernel_rfl) (by kernel_rfl) (fun _ _ _ h => h) rfl (fun V => by first | (simp [execOp, put_none, evp_same, evp_ne, szp, hsz, e0, e4]; done) | simp [execOp, put_none, evp_same, evp_ne, szp, hsz, e0, e4, go_sem]) hS ?_
  refine gate_take0 (i := 3) (v := (.pointer (some ⟨g, i * 10 + 9, none⟩))) rfl (by rfl) (by kernel_rfl) (by kernel_rfl) (by kernel_rfl) (fun _ _ _ h => h) rfl (fun V => by first | (simp [execOp, put_none, evp_same, evp_ne, szp, hsz, e0, e4]; done) | simp [execOp, put_none, evp_same, evp_ne, szp, hsz, e0, e4, go_sem]) hS ?_
  refine gate_take (i := 4) (v := (p.2)) rfl (by rfl) (by kernel_rfl) (by kernel_rfl) (by kernel_rfl) (by kernel_rfl) (by kernel_rfl) (fun _ _ _ h => h) rfl (fun V hV => by simp [execOp, put_none, evp_same, evp_ne, szp, hsz, e0, e4, go_sem, hV.2]) hS ?_
  refine gate_take0 (i := 5) (v := (.pointer (some ⟨R, 0, none⟩))) rfl (by rfl) (by kernel_rfl) (by kernel_rfl) (by kernel_rfl) (fun _ _ _ h => h) rfl (fun V => by first | (simp [execOp, put_none, evp_same, evp_ne, szp, hsz, e0, e4]; done) | simp [execOp, put_none, evp_same, evp_ne, szp, hsz, e0, e4, go_sem]) hS ?_
  refine gate_take0 (i := 6) (v := (.pointer (some ⟨R, 0, none⟩))) rfl (by rfl) (by kernel_rfl) (by kernel_rfl) (by kernel_rfl) (fun _ _ _ h => h) rfl (fun V => by first | (simp [execOp, put_none, evp_same, evp_ne, szp, hsz, e0, e4]; done) | simp [execOp, put_none, evp_same, evp_ne, szp, hsz, e0, e4, go_sem]) hS ?_
  refine gate_take0 (i := 7) (v := (.pointer (some ⟨R, 2, none⟩))) rfl (by rfl) (by kernel_rfl) (by kernel_rfl) (by kernel_rfl) (fun _ _ _ h => h) rfl (fun V => by first | (simp [execOp, put_none, evp_same, evp_ne, szp, hsz, e0, e4]; done) | simp [execOp, put_none, evp_same, evp_ne, szp, hsz, e0, e4, go_sem]) hS ?_
  refine gate_take (i := 8) (v := (.slice (some ⟨g, 0, none⟩) P.length cap)) rfl (by rfl) (by kernel_rfl) (by kernel_rfl) (by kernel_rfl) (by kernel_rfl) (by kernel_rfl) (fun _ _ _ h => h) rfl (fun V hV => by simp [execOp, put_none, evp_same, evp_ne, szp, hsz, e0, e4, go_sem, hV.1]) hS ?_
  refine gate_take0 (i := 9) (v := (.int .i64 (P.length : Int))) rfl (by rfl) (by kernel_rfl) (by kernel_rfl) (by kernel_rfl) (fun _ _ _ h => h) rfl (fun V => by first | (simp [execOp, put_none, evp_same, evp_ne, szp, hsz, e0, e4]; done) | simp [execOp, put_none, evp_same, evp_ne, szp, hsz, e0, e4, go_sem]) hS ?_
  refine gate_one (i := 10) (by kernel_rfl) ?_
  refine wpOp_value (w' := W.drew.alloc (.cells #[.int .i64 (P.length : Int)] 3)) (v := (.slice (some ⟨W.heap.size, 0, none⟩) 1 1)) rfl rfl (by simp [execOp, put_none, evp_same, evp_ne, szp, hsz, e0, e4, go_sem]) ⟨fun _ => hS1, ?_⟩
  refine gate_one (i := 11) (by kernel_rfl) ?_
  refine wpOp_value (w' := w') (v := (.slice A' (p.1.kids.length + 1) cap')) rfl rfl (by exact append_run _ _ (.tmp 15) (.tmp 21) 36 36 rfl _ _ _ _ _ hrun (by simp [evp_same, evp_ne, szp, hsz, e0, e4]) (by simp [evp_same, evp_ne, szp, hsz, e0, e4])) ⟨fun _ => hS2, ?_⟩
  refine gate_one (i := 12) (by kernel_rfl) ?_
  refine wpOp_value (w' := w') (v := (.pointer (some ⟨g, i * 10, none⟩))) rfl rfl (by simp [execOp, put_none, evp_same, evp_ne, szp, hsz, e0, e4, go_sem]) ⟨fun _ => hS2, ?_⟩
  refine gate_one (i := 13) (by kernel_rfl) ?_
  refine wpOp_value (w' := w') (v := (.pointer (some ⟨g, i * 10 + 9, none⟩))) rfl rfl (by simp [execOp, put_none, evp_same, evp_ne, szp, hsz, e0, e4, go_sem, add_plain]) ⟨fun _ => hS2, ?_⟩
  refine gate_one (i := 14) (by kernel_rfl) ?_
  refine wpOp_skip rfl rfl (w' := w'.setCell ⟨g, i * 10 + 9, none⟩ (.slice A' (p.1.kids.length + 1) cap')) (by simp [execOp, put_none, evp_same, evp_ne, szp, hsz, e0, e4, go_sem, hc, hz]) ⟨(fun h => Bool.noConfusion (show true = false from h)), ?_⟩
  refine gate_done (by kernel_rfl) ?_ _
  subst hA
  go_end0
  exact ⟨rfl, _, _, HS.out, HB.out, hs, HFR.out⟩
theorem sgl_len : ∀ (n : Nat) (l : List Int), l.length ≤ n → (Sg.sgl l).length ≤ l.length := by
  intro n
  induction n with
  | zero =>
    intro l h
    obtain rfl : l = [] := List.eq_nil_of_length_eq_zero (by omega)
    exact Nat.le_refl _
  | succ n ih =>
    intro l h
    cases l with
    | nil => exact Nat.le_refl _
    | cons c t =>
      by_cases h39 : c = 39
      · subst h39
        cases t with
        | nil => simp [Sg.sgl]
        | cons d u =>
          by_cases hd : d = 39
          · subst hd
            rw [Sg.sgl_two]
            have := ih u (by simp at h; omega)
            simp; omega
          · rw [Sg.sgl_one d u hd]
            have := ih (d :: u) (by simp at h ⊢; omega)
            simp at this ⊢; omega
      · rw [Sg.sgl_ne c t h39]
        have := ih t (by simp at h; omega)
        simp; omega
theorem takeD_byte {zs v : List Int} {n : Nat} (hb : Byte zs) (h : takeD zs = some (v, n)) : Byte v ∧ v.length ≤ 4 * zs.length := by
  unfold takeD dqAt at h
  split at h
  · cases hq : dq (zs.drop 1) with
    | none => rw [hq] at h; cases h
    | some x =>
      obtain ⟨v', m⟩ := x
      rw [hq] at h
      simp only [Option.map_some, List.nil_append, Option.some.injEq, Prod.mk.injEq] at h
      obtain ⟨h1, h2, h3, h4⟩ := dq_len _ _ v' m (Nat.le_refl _) hq
      rw [List.length_drop] at h2
      rw [← h.1]
      exact ⟨h4 (hb.drop 1), by omega⟩
  · cases h
theorem leaf_byte {b : List Int} (hb : Byte b) {fl : Bool} {s : Nat} {k st : Int} {v : List Int} {n : Nat} (h : inLeaf b fl s = some (k, st, v, n)) : Byte v ∧ v.length ≤ 4 * b.length := by
  have hd := hb.drop s
  have hl : (b.drop s).length ≤ b.length := by rw [List.length_drop]; omega
  unfold inLeaf at h
  split at h
  · cases hq : takeD (b.drop s) with
    | none => rw [hq] at h; cases h
    | some x =>
      obtain ⟨v', m⟩ := x
      rw [hq] at h
      simp only [Option.map_some, Option.some.injEq, Prod.mk.injEq] at h
      have := takeD_byte hd hq
      rw [← h.2.2.1]
      exact ⟨this.1, by omega⟩
  · split at h
    · cases hq : Sg.takeS (b.drop s) with
      | none => rw [hq] at h; cases h
      | some x =>
        obtain ⟨v', m⟩ := x
        rw [hq] at h
        simp only [Option.map_some, Option.some.injEq, Prod.mk.injEq] at h
        obtain ⟨g1, g2, g3⟩ := Sg.takeS_sgl _ _ _ hq
        rw [← h.2.2.1, g3]
        have hy : Byte (((b.drop s).drop 1).take (m - 1 - 1)) := (hd.drop 1).take _
        have hl2 := sgl_len _ (((b.drop s).drop 1).take (m - 1 - 1)) (Nat.le_refl _)
        rw [List.length_take, List.length_drop] at hl2
        exact ⟨Sg.sgl_byte _ _ (Nat.le_refl _) hy, by omega⟩
    · split at h
      · simp only [Option.some.injEq, Prod.mk.injEq] at h
        rw [← h.2.2.1]
        exact ⟨hd.take _, by rw [List.length_take]; omega⟩
      · simp only [Option.some.injEq, Prod.mk.injEq] at h
        rw [← h.2.2.1]
        exact ⟨fun z hz => (by cases hz), by simp⟩
def inKeyO (s : Nat) : Option (Int × Int × List Int × Nat) → Option (Nd × Nat)
  | none => none
  | some (k, st, v, n) => if k = 1 ∧ n ≤ 128 then some (⟨1, st, inTag 1 st [] v, [], v, s, s + n, s, s, []⟩, s + n) else none
theorem inKey_o (b : List Int) (s : Nat) : inKey b s = inKeyO s (inLeaf b true s) := by
  unfold inKey inKeyO
  cases inLeaf b true s <;> rfl
/-- What key leaves. -/
def KeyP (w : World) (F : Fr) (R : Nat) (A : Option Addr) (n c : Nat) (P : List NK) (i : Nat) (p : NK) (o : Option (Nd × Nat)) (e : Ending) (W' : World) : Prop :=
  match o with
  | none => e = .returned (.int .i64 2) ∧ Below w.heap.size w W'
  | some (x, m) => e = .returned (.int .i64 0) ∧ ∃ v' k', Rd w F R A n c W' m v' (moreKid P i p k' ++ [(x, .slice none 0 0)])
theorem more_len (P : List NK) (i : Nat) (p : NK) (k' : Value) : (moreKid P i p k').length = P.length := by simp [moreKid]
theorem last_at {P : List NK} {x : NK} {l : Nat} (h : P.length = l) : (P ++ [x])[l]? = some x := by subst h; simp
theorem last_set {P : List NK} {x y : NK} {l : Nat} (h : P.length = l) : (P ++ [x]).set l y = P ++ [y] := by subst h; simp
set_option maxHeartbeats 4000000 in
theorem key_at {w : World} {W : World} {F : Fr} {R : Nat} {A : Option Addr} {n c s : Nat} {v : Value} {P : List NK} {b : List Int} (E : Env w A n c b) (h : Rd w F R A n c W s v P) {i : Nat} {p : NK} (hp : P[i]? = some p) (hn : P.length ≤ 200000) (hk : p.1.kids.length ≤ 200000) :
    Calls Tryz.prog 64 #[.pointer (some ⟨R, 0, none⟩), .int .i64 (i : Int)] W (KeyP w F R A n c P i p (inKey b s)) := by
  have c1 := h.st.c1
  have hs := h.hs
  have hsm := E.small
  have HE := Lib.hid E
  have HX := Lib.hid (expect_at h (by omega) hp (by omega))
  obtain ⟨l, hl⟩ : ∃ l, P.length = l := ⟨_, rfl⟩
  rw [hl] at hn
  have HL := Lib.hid hl
  have HP := Lib.hid hp
  obtain ⟨o, ho⟩ : ∃ o, inLeaf b true s = o := ⟨_, rfl⟩
  have HO := Lib.hid ho
  have hkey : inKey b s = inKeyO s o := by rw [inKey_o, ho]
  rw [hkey]
  clear h E hl hp ho hkey
  go_enter Tryz.func64, Tryz.ntmps64
  go_wp2_with fail
  refine HX.out.mono ?_
  rintro e w1 ⟨rfl, v1, k', h1⟩
  have hl1 : (moreKid P i p k').length = l := by rw [more_len, HL.out]
  obtain ⟨P1, hP1⟩ : ∃ P1, moreKid P i p k' = P1 := ⟨_, rfl⟩
  rw [hP1] at h1 hl1
  have HP1 := Lib.hid hP1
  have H1 := Lib.hid h1
  have HL1 := Lib.hid hl1
  clear h1 hl1 HX HP c1 hP1
  go_wp2_with fail
  refine (add_at H1.out (by rw [HL1.out]; omega)).mono ?_
  rintro e w2 ⟨rfl, v2, h2⟩
  rw [HL1.out]
  have H2 := Lib.hid h2
  clear h2 H1
  go_wp2_with fail
  refine (scalar_at HE.out H2.out (last_at HL1.out) true).mono ?_
  intro e w3 h3
  rw [HO.out] at h3
  cases o with
  | none =>
    obtain ⟨rfl, hb3⟩ := h3
    have HB3 := Lib.hid hb3
    clear hb3
    go_wp2_with fail
    go_ret
    exact ⟨rfl, HB3.out⟩
  | some x =>
    obtain ⟨kd, st, vl, m⟩ := x
    obtain ⟨rfl, v3, h3⟩ := h3
    rw [last_set HL1.out] at h3
    have hbv := leaf_byte HE.out.byte HO.out
    have hsz := leaf_size (by rw [HE.out.len]; exact hs) HO.out
    rw [HE.out.len] at hbv hsz
    obtain ⟨g, cap, rfl, hg1, hg2, hg3, hg4⟩ := h3.form (by simp)
    have hl3 : (P1 ++ [(leafNd kd st vl, Value.slice none 0 0)]).length = l + 1 := by simp [HL1.out]
    rw [hl3] at h3 hg1
    have hp3 : (P1 ++ [(leafNd kd st vl, Value.slice none 0 0)])[l]? = some (leafNd kd st vl, .slice none 0 0) := last_at HL1.out
    have q0 := h3.cell hl3 hp3 0 _ rfl
    rw [Nat.add_zero] at q0
    have r1 := h3.st.c1
    have r2 := h3.st.c2
    have d : (l : Int) < ((l : Int) + 1) := by omega
    have H3 := Lib.hid h3
    have HP3 := Lib.hid hp3
    have HBV := Lib.hid hbv
    have HSZ := Lib.hid hsz.1
    have hm1 : s + m ≤ n := hsz.1
    clear h3 hl3 hp3 hbv hsz H2
    have e1 : (leafNd kd st vl).kind = kd := rfl
    rw [e1] at q0
    clear e1
    by_cases hkd : kd = 1
    · subst hkd
      by_cases hm128 : m ≤ 128
      · have d1 : decide ((128 : Int) < (s : Int) + (m : Int) - (s : Int)) = false := decide_eq_false (by omega)
        have d2 : ¬ ((128 : Int) < (s : Int) + (m : Int) - (s : Int)) := by omega
        go_wp2_with fail
        refine (finish_at H3.out HP3.out s ⟨#[]⟩ ⟨#[]⟩ HBV.out.1 (by have := HBV.out.2; have e : (leafNd 1 st vl).value = vl := rfl; rw [e]; omega)).mono ?_
        rintro e w4 ⟨rfl, v4, h4⟩
        rw [last_set HL1.out] at h4
        have H4 := Lib.hid h4
        clear h4 H3
        have hfin : inKeyO s (some (1, st, vl, m)) = some (fin (leafNd 1 st vl) ⟨#[]⟩ ⟨#[]⟩ s (s + m), s + m) := by
          show (if (1 : Int) = 1 ∧ m ≤ 128 then _ else _) = _
          rw [if_pos ⟨rfl, hm128⟩]; rfl
        have HF := Lib.hid hfin
        clear hfin d1 d2 q0 r1 r2
        go_wp2_with fail
        go_ret
        rw [HF.out]
        exact ⟨rfl, _, k', by rw [HP1.out]; exact H4.out⟩
      · have d2 : ((128 : Int) < (s : Int) + (m : Int) - (s : Int)) := by omega
        have hfin : inKeyO s (some (1, st, vl, m)) = none := by show (if (1 : Int) = 1 ∧ m ≤ 128 then _ else _) = _; rw [if_neg (by rintro ⟨_, h⟩; exact hm128 h)]
        have HF := Lib.hid hfin
        clear hfin hm128
        go_wp2_with fail
        go_ret
        rw [HF.out]
        exact ⟨rfl, H3.out.bel⟩
    · have hfin : inKeyO s (some (kd, st, vl, m)) = none := by show (if kd = 1 ∧ m ≤ 128 then _ else _) = _; rw [if_neg (by rintro ⟨h, _⟩; exact hkd h)]
      have HF := Lib.hid hfin
      have hk1 : (kd != 1) = true := bne_iff_ne.2 hkd
      clear hfin hkd
      go_wp2_with fail
      go_ret
      rw [HF.out]
      exact ⟨rfl, H3.out.bel⟩
/-- What node leaves: more nodes at the list's end. -/
def NodeP (w : World) (F : Fr) (R : Nat) (A : Option Addr) (n c : Nat) (P : List NK) (r : InR) (e : Ending) (W' : World) : Prop :=
  match r with
  | .error k => e = .returned (.int .i64 k) ∧ Below w.heap.size w W' ∧ k ≠ 0
  | .ok (l, m) => e = .returned (.int .i64 0) ∧ ∃ v' Q, Rd w F R A n c W' m v' (P ++ Q) ∧ lst Q = l
/-- The contract of node: f: how much deeper collections may go. -/
def NodeC (w : World) (F : Fr) (R : Nat) (A : Option Addr) (n c : Nat) (b : List Int) (f : Nat) : Prop :=
  ∀ (W : World) (s : Nat) (v : Value) (P : List NK) (fl : Bool) (d : Int), Rd w F R A n c W s v P → P.length ≤ s + 1 → 0 ≤ d → d ≤ 1000000 → (64 - d).toNat = f →
    Calls Tryz.prog 21 #[.pointer (some ⟨R, 0, none⟩), .bool fl, .int .i64 d] W (NodeP w F R A n c P (inNode f b fl s P.length))
/-- What child leaves. -/
def ChildP (w : World) (F : Fr) (R : Nat) (A : Option Addr) (n c s : Nat) (P : List NK) (i : Nat) (p : NK) (r : InR) (e : Ending) (W' : World) : Prop :=
  match r with
  | .error k => e = .returned (.tuple #[.int .i64 0, .bool false, .int .i64 k]) ∧ Below w.heap.size w W' ∧ k ≠ 0
  | .ok (l, m) => e = .returned (.tuple #[.int .i64 (P.length : Int), .bool (m == s), .int .i64 0]) ∧ ∃ v' k' Q, Rd w F R A n c W' m v' (moreKid P i p k' ++ Q) ∧ lst Q = l
theorem eq_int (m s : Nat) : ((m : Int) == (s : Int)) = (m == s) := by
  apply bool_iff
  rw [beq_iff_eq, beq_iff_eq]; omega
set_option maxHeartbeats 2000000 in
theorem child_at {w : World} {F : Fr} {R : Nat} {A : Option Addr} {n c : Nat} {b : List Int} {f : Nat} (E : Env w A n c b) (C : NodeC w F R A n c b f) {W : World} {s : Nat} {v : Value} {P : List NK} (h : Rd w F R A n c W s v P) {i : Nat} {p : NK} (hp : P[i]? = some p) (hn : P.length ≤ s + 1) (hk : p.1.kids.length ≤ s + 1)
    (d : Int) (hd0 : 0 ≤ d) (hd1 : d ≤ 1000000) (hf : (64 - d).toNat = f) :
    Calls Tryz.prog 63 #[.pointer (some ⟨R, 0, none⟩), .int .i64 (i : Int), .int .i64 d] W (ChildP w F R A n c s P i p (inNode f b true s P.length)) := by
  have hs := h.hs
  have hsm := E.small
  have c1 := h.st.c1
  have HX := Lib.hid (expect_at h (by omega) hp (by omega))
  obtain ⟨l, hl⟩ : ∃ l, P.length = l := ⟨_, rfl⟩
  rw [hl] at hn
  have HL := Lib.hid hl
  have HC := Lib.hid C
  have HF := Lib.hid hf
  rw [hl]
  obtain ⟨r, hr⟩ : ∃ r, inNode f b true s l = r := ⟨_, rfl⟩
  rw [hr]
  have HR := Lib.hid hr
  clear h E hl hp C hf hr
  go_enter Tryz.func63, Tryz.ntmps63
  go_wp2_with fail
  refine HX.out.mono ?_
  rintro e w1 ⟨rfl, v1, k', h1⟩
  have hl1 : (moreKid P i p k').length = l := by rw [more_len, HL.out]
  obtain ⟨P1, hP1⟩ : ∃ P1, moreKid P i p k' = P1 := ⟨_, rfl⟩
  rw [hP1] at h1 hl1
  have HP1 := Lib.hid hP1
  have HL1 := Lib.hid hl1
  obtain ⟨A1, cap1, hv1, _⟩ := own_form h1.st.nds.row
  rw [hl1] at hv1
  subst hv1
  have r2 := h1.st.c2
  have H1 := Lib.hid h1
  clear h1 hl1 HX c1 hP1
  go_wp2_with fail
  have hc := HC.out w1 s _ P1 true d H1.out (by rw [HL1.out]; exact hn) hd0 hd1 HF.out
  rw [HL1.out, HR.out] at hc
  refine hc.mono ?_
  intro e w2 h2
  cases r with
  | error k =>
    obtain ⟨rfl, hb2, hk0⟩ := h2
    have hk' : (k != 0) = true := bne_iff_ne.2 hk0
    have HB2 := Lib.hid hb2
    have HK0 := Lib.hid hk0
    clear hc hb2 hk0
    go_wp2_with fail
    go_ret3
    exact ⟨rfl, HB2.out, HK0.out⟩
  | ok x =>
    obtain ⟨nl, m⟩ := x
    obtain ⟨rfl, v2, Q, h2, hq⟩ := h2
    have q1 := h2.st.c1
    have he := eq_int m s
    have HQ := Lib.hid hq
    have H2 := Lib.hid h2
    have HEQ := Lib.hid he
    clear hc hq h2 he r2
    go_wp2_with fail
    go_quiet (fail)
    go_wp2_with fail
    go_ret3
    refine ⟨?_, v2, k', Q, by rw [HP1.out]; exact H2.out.draws _, HQ.out⟩
    show _ = Ending.returned (.tuple #[.int .i64 (P.length : Int), .bool (m == s), .int .i64 0])
    rw [HL.out, ← HEQ.out]
    rfl
section
variable {P : Program} {ops : Array Oper} {Q : Exit → Act → World → Prop} {md : Region.Mode} {S : World → Prop} {t : Nat}
/-- One operation that is not wanted. -/
theorem gate_skip0 {i : Nat} {oi : Oper} {n : Nat} {L : Array Bool} {a : Act} {w : World} (hi : ops[i]? = some oi) (hit : decide (i ≠ t) = true)
    (hs : Region.noSelect ops = true) (hf : Region.free md ops L i = true) (hr : (Region.ready md ops L).contains i = true)
    (hQ : ∀ c a w, Q (.panic c) (a.put oi.dst undef) w → Q (.panic c) a w) (hw : Region.wanted oi (yielded ops a.tmps) = false) (hS : S w)
    (h : wpGate P md ops Q S t n (upOne L i) (a.put oi.dst undef) w) : wpGate P md ops Q S t (n + 1) L a w :=
  gate_move (C := fun _ => True) (G := fun _ => True) (of_decide_eq_true hit) hi (Region.noSelect_spec hs) hQ (fun _ _ _ _ => trivial) (fun _ _ _ _ _ _ => trivial) n L a w (Region.free_spec hi hf) trivial (by simpa using hr) (.inr ⟨hw, rfl⟩) (fun _ => hS) h
theorem wanted_t {o : Oper} {a : Act} {j d : Nat} {w1 b : Bool} (hg : o.guard = some (j, w1)) (hj : (ops[j]?).bind (·.dst) = some d) (hsz : d < a.tmps.size) (hv : a.eval (.tmp d) = .bool b) (hb : (b == w1) = true) : Region.wanted o (yielded ops a.tmps) = true := by
  have hv' : a.tmps[d]? = some (.bool b) := by
    rw [← hv]; simp [Act.eval, hsz, Array.getD]
  simp [Region.wanted, hg, yielded, hj, hv']
  simpa using hb
theorem wanted_f {o : Oper} {a : Act} {j d : Nat} {w1 b : Bool} (hg : o.guard = some (j, w1)) (hj : (ops[j]?).bind (·.dst) = some d) (hsz : d < a.tmps.size) (hv : a.eval (.tmp d) = .bool b) (hb : (b == w1) = false) : Region.wanted o (yielded ops a.tmps) = false := by
  have hv' : a.tmps[d]? = some (.bool b) := by
    rw [← hv]; simp [Act.eval, hsz, Array.getD]
  simp [Region.wanted, hg, yielded, hj, hv']
  simpa using hb
theorem wanted_u {o : Oper} {a : Act} {j d : Nat} {w1 : Bool} (hg : o.guard = some (j, w1)) (hj : (ops[j]?).bind (·.dst) = some d) (hsz : d < a.tmps.size) (hv : a.eval (.tmp d) = undef) : Region.wanted o (yielded ops a.tmps) = false := by
  have hv' : a.tmps[d]? = some undef := by
    rw [← hv]; simp [Act.eval, hsz, Array.getD]
  simp [Region.wanted, hg, yielded, hj, hv', undef]
theorem any_one {i n : Nat} {L : Array Bool} {a : Act} {w : World} (hr : Region.ready md ops L = [i]) (h : wpOp P ops Q i (wpAny P md ops Q n (upOne L i)) a w) : wpAny P md ops Q (n + 1) L a w :=
  ⟨fun h0 => (by rw [hr] at h0; cases h0), fun j hj => by rw [hr] at hj; simp at hj; subst hj; exact h⟩
/-- A call, by whatever contract. -/
theorem wpOp_callX {i : Nat} {o : Oper} {f : FuncId} {args : Array Value} {a : Act} {w : World} {K : Act → World → Prop} {C : Ending → World → Prop} (hi : ops[i]? = some o) (hw : Region.wanted o (yielded ops a.tmps) = true) (hr : (execOp a.eval o).run P w = .ok (.enter f args) w)
    (hc : Calls P f args w C) (h : ∀ e w', C e w' → ∃ v, e = .returned v ∧ K (a.put o.dst v) w') : wpOp P ops Q i K a w := by
  unfold wpOp
  simp only [hi, hw, if_true, Oper.wp, hr, Oper.upon]
  refine .inl (hc.mono ?_)
  intro e w' hC
  obtain ⟨v, rfl, hk⟩ := h e w' hC
  exact hk
end
theorem skip_run (a : Act) (o : Oper) (x y : Operand) (T : Array TypeId) (ho : o.op = .call { callee := .value (.func 62), args := #[x, y], argTypes := T }) (vx vy : Value) (hx : a.eval x = vx) (hy : a.eval y = vy) (w : World) :
    (execOp a.eval o).run Tryz.prog w = .ok (.enter 62 #[vx, vy]) w := by
  have hn : (Tryz.f62.name == "runtime.NumGoroutine") = false := by kernel_rfl
  have hb : Tryz.f62.body.isNone = false := by kernel_rfl
  have hf : a.eval (.func 62) = .func (.func 62) #[] #[] := rfl
  have hn' : ¬ (Tryz.f62.name = "runtime.NumGoroutine") := by simpa using hn
  have hb' : ¬ (Tryz.f62.body = none) := by
    intro h
    rw [h] at hb
    cases hb
  unfold execOp
  simp [ho, resolve, Deferred.ofValue, hf, hx, hy, invoke, callFunc, run_program, Tryz.func62]
  rw [if_neg hn', if_neg hb']
theorem ixs_run (a : Act) (o : Oper) (x y : Operand) (T : Array TypeId) (ho : o.op = .call { callee := .value (.func 77), args := #[x, y], argTypes := T }) (vx vy : Value) (hx : a.eval x = vx) (hy : a.eval y = vy) (w : World) :
    (execOp a.eval o).run Tryz.prog w = .ok (.enter 77 #[vx, vy]) w := by
  have hn : (Tryz.f77.name == "runtime.NumGoroutine") = false := by kernel_rfl
  have hb : Tryz.f77.body.isNone = false := by kernel_rfl
  have hf : a.eval (.func 77) = .func (.func 77) #[] #[] := rfl
  have hn' : ¬ (Tryz.f77.name = "runtime.NumGoroutine") := by simpa using hn
  have hb' : ¬ (Tryz.f77.body = none) := by
    intro h
    rw [h] at hb
    cases hb
  unfold execOp
  simp [ho, resolve, Deferred.ofValue, hf, hx, hy, invoke, callFunc, run_program, Tryz.func77]
  rw [if_neg hn', if_neg hb']
set_option maxHeartbeats 8000000 in
theorem colon_a {w : World} {W : World} {F : Fr} {R : Nat} {A : Option Addr} {n c s : Nat} {v : Value} {P : List NK} {b : List Int} (E : Env w A n c b) (h : Rd w F R A n c W s v P) (hq : b.getD s 0 ≠ 58) :
    Calls Tryz.prog 65 #[.pointer (some ⟨R, 0, none⟩)] W fun e W' => e = .returned (.bool false) ∧ Rd w F R A n c W' s v P := by
  have hsm := E.small
  have hs := h.hs
  have hnc := E.le
  have hcm := E.cap
  have h1 : Rd w F R A n c W.drew s v P := h.below (Below.refl _ _).drew
  have HC := Lib.hid (skip_any E h1 58 (by decide) false (by exact beq_eq_false_iff_ne.2 hq))
  have HE := Lib.hid E
  clear E h h1
  go_enter Tryz.func65, Tryz.ntmps65
  go_wp2_with fail
  refine gen_act fun a0 hA => ?_
  have hsz : a0.tmps.size = 31 := by rw [hA]; rfl
  have e0 : a0.eval (.tmp 0) = .pointer (some ⟨R, 0, none⟩) := by rw [hA]; rfl
  refine wp_region_any (by kernel_rfl) ?_
  change wpAny _ _ _ _ 29 _ _ _
  refine any_one (i := 0) (by kernel_rfl) ?_
  refine wpOp_value (w' := W.drew) (v := .pointer (some ⟨R, 0, none⟩)) rfl rfl (by simp [execOp, put_none, evp_same, evp_ne, szp, hsz, e0]) ?_
  refine any_one (i := 1) (by kernel_rfl) ?_
  refine wpOp_callX rfl rfl (skip_run _ _ (.tmp 3) (.const (.int .u8 58)) #[68, 5] rfl (.pointer (some ⟨R, 0, none⟩)) (.int .u8 58) (by simp [evp_same, evp_ne, szp, hsz]) rfl _) HC.out ?_
  rintro e w1 ⟨rfl, h2⟩
  refine ⟨_, rfl, ?_⟩
  have h2 : Rd w F R A n c w1 s v P := h2
  have hS : True := trivial
  refine any_of_gate (S := fun _ => True) (t := 28) _ _ _ _ ?_
  change wpGate _ _ _ _ _ _ 27 _ _ _
  refine gate_take0 (i := 2) (v := (.bool false)) rfl (by rfl) (by kernel_rfl) (by kernel_rfl) (by kernel_rfl) (fun _ _ _ h => h) rfl (fun V => by first | (simp [execOp, put_none, evp_same, evp_ne, szp, hsz, e0]; done) | simp [execOp, put_none, evp_same, evp_ne, szp, hsz, e0, go_sem]) hS ?_
  refine gate_skip0 (i := 3) rfl (by rfl) (by kernel_rfl) (by kernel_rfl) (by kernel_rfl) (fun _ _ _ h => h) (wanted_f (j := 2) (w1 := true) (b := false) rfl rfl (by simp [evp_same, evp_ne, szp, hsz]) (by simp [evp_same, evp_ne, szp, hsz]) rfl) hS ?_
  refine gate_skip0 (i := 4) rfl (by rfl) (by kernel_rfl) (by kernel_rfl) (by kernel_rfl) (fun _ _ _ h => h) (wanted_f (j := 2) (w1 := true) (b := false) rfl rfl (by simp [evp_same, evp_ne, szp, hsz]) (by simp [evp_same, evp_ne, szp, hsz]) rfl) hS ?_
  refine gate_skip0 (i := 5) rfl (by rfl) (by kernel_rfl) (by kernel_rfl) (by kernel_rfl) (fun _ _ _ h => h) (wanted_f (j := 2) (w1 := true) (b := false) rfl rfl (by simp [evp_same, evp_ne, szp, hsz]) (by simp [evp_same, evp_ne, szp, hsz]) rfl) hS ?_
  refine gate_skip0 (i := 6) rfl (by rfl) (by kernel_rfl) (by kernel_rfl) (by kernel_rfl) (fun _ _ _ h => h) (wanted_f (j := 2) (w1 := true) (b := false) rfl rfl (by simp [evp_same, evp_ne, szp, hsz]) (by simp [evp_same, evp_ne, szp, hsz]) rfl) hS ?_
  refine gate_skip0 (i := 7) rfl (by rfl) (by kernel_rfl) (by kernel_rfl) (by kernel_rfl) (fun _ _ _ h => h) (wanted_f (j := 2) (w1 := true) (b := false) rfl rfl (by simp [evp_same, evp_ne, szp, hsz]) (by simp [evp_same, evp_ne, szp, hsz]) rfl) hS ?_
  refine gate_skip0 (i := 8) rfl (by rfl) (by kernel_rfl) (by kernel_rfl) (by kernel_rfl) (fun _ _ _ h => h) (wanted_f (j := 2) (w1 := true) (b := false) rfl rfl (by simp [evp_same, evp_ne, szp, hsz]) (by simp [evp_same, evp_ne, szp, hsz]) rfl) hS ?_
  refine gate_skip0 (i := 9) rfl (by rfl) (by kernel_rfl) (by kernel_rfl) (by kernel_rfl) (fun _ _ _ h => h) (wanted_f (j := 2) (w1 := true) (b := false) rfl rfl (by simp [evp_same, evp_ne, szp, hsz]) (by simp [evp_same, evp_ne, szp, hsz]) rfl) hS ?_
  refine gate_skip0 (i := 10) rfl (by rfl) (by kernel_rfl) (by kernel_rfl) (by kernel_rfl) (fun _ _ _ h => h) (wanted_f (j := 2) (w1 := true) (b := false) rfl rfl (by simp [evp_same, evp_ne, szp, hsz]) (by simp [evp_same, evp_ne, szp, hsz]) rfl) hS ?_
  refine gate_skip0 (i := 11) rfl (by rfl) (by kernel_rfl) (by kernel_rfl) (by kernel_rfl) (fun _ _ _ h => h) (wanted_f (j := 2) (w1 := true) (b := false) rfl rfl (by simp [evp_same, evp_ne, szp, hsz]) (by simp [evp_same, evp_ne, szp, hsz]) rfl) hS ?_
  refine gate_skip0 (i := 12) rfl (by rfl) (by kernel_rfl) (by kernel_rfl) (by kernel_rfl) (fun _ _ _ h => h) (wanted_f (j := 2) (w1 := true) (b := false) rfl rfl (by simp [evp_same, evp_ne, szp, hsz]) (by simp [evp_same, evp_ne, szp, hsz]) rfl) hS ?_
  refine gate_skip0 (i := 13) rfl (by rfl) (by kernel_rfl) (by kernel_rfl) (by kernel_rfl) (fun _ _ _ h => h) (wanted_f (j := 2) (w1 := true) (b := false) rfl rfl (by simp [evp_same, evp_ne, szp, hsz]) (by simp [evp_same, evp_ne, szp, hsz]) rfl) hS ?_
  refine gate_skip0 (i := 14) rfl (by rfl) (by kernel_rfl) (by kernel_rfl) (by kernel_rfl) (fun _ _ _ h => h) (wanted_u (j := 13) (w1 := false) rfl rfl (by simp [evp_same, evp_ne, szp, hsz]) (by simp [evp_same, evp_ne, szp, hsz])) hS ?_
  refine gate_skip0 (i := 15) rfl (by rfl) (by kernel_rfl) (by kernel_rfl) (by kernel_rfl) (fun _ _ _ h => h) (wanted_u (j := 13) (w1 := false) rfl rfl (by simp [evp_same, evp_ne, szp, hsz]) (by simp [evp_same, evp_ne, szp, hsz])) hS ?_
  refine gate_skip0 (i := 16) rfl (by rfl) (by kernel_rfl) (by kernel_rfl) (by kernel_rfl) (fun _ _ _ h => h) (wanted_u (j := 13) (w1 := false) rfl rfl (by simp [evp_same, evp_ne, szp, hsz]) (by simp [evp_same, evp_ne, szp, hsz])) hS ?_
  refine gate_skip0 (i := 17) rfl (by rfl) (by kernel_rfl) (by kernel_rfl) (by kernel_rfl) (fun _ _ _ h => h) (wanted_u (j := 13) (w1 := false) rfl rfl (by simp [evp_same, evp_ne, szp, hsz]) (by simp [evp_same, evp_ne, szp, hsz])) hS ?_
  refine gate_skip0 (i := 18) rfl (by rfl) (by kernel_rfl) (by kernel_rfl) (by kernel_rfl) (fun _ _ _ h => h) (wanted_u (j := 13) (w1 := false) rfl rfl (by simp [evp_same, evp_ne, szp, hsz]) (by simp [evp_same, evp_ne, szp, hsz])) hS ?_
  refine gate_skip0 (i := 19) rfl (by rfl) (by kernel_rfl) (by kernel_rfl) (by kernel_rfl) (fun _ _ _ h => h) (wanted_u (j := 13) (w1 := false) rfl rfl (by simp [evp_same, evp_ne, szp, hsz]) (by simp [evp_same, evp_ne, szp, hsz])) hS ?_
  refine gate_skip0 (i := 20) rfl (by rfl) (by kernel_rfl) (by kernel_rfl) (by kernel_rfl) (fun _ _ _ h => h) (wanted_u (j := 13) (w1 := false) rfl rfl (by simp [evp_same, evp_ne, szp, hsz]) (by simp [evp_same, evp_ne, szp, hsz])) hS ?_
  refine gate_skip0 (i := 21) rfl (by rfl) (by kernel_rfl) (by kernel_rfl) (by kernel_rfl) (fun _ _ _ h => h) (wanted_u (j := 13) (w1 := false) rfl rfl (by simp [evp_same, evp_ne, szp, hsz]) (by simp [evp_same, evp_ne, szp, hsz])) hS ?_
  refine gate_skip0 (i := 22) rfl (by rfl) (by kernel_rfl) (by kernel_rfl) (by kernel_rfl) (fun _ _ _ h => h) (wanted_u (j := 13) (w1 := false) rfl rfl (by simp [evp_same, evp_ne, szp, hsz]) (by simp [evp_same, evp_ne, szp, hsz])) hS ?_
  refine gate_skip0 (i := 23) rfl (by rfl) (by kernel_rfl) (by kernel_rfl) (by kernel_rfl) (fun _ _ _ h => h) (wanted_u (j := 13) (w1 := false) rfl rfl (by simp [evp_same, evp_ne, szp, hsz]) (by simp [evp_same, evp_ne, szp, hsz])) hS ?_
  refine gate_skip0 (i := 24) rfl (by rfl) (by kernel_rfl) (by kernel_rfl) (by kernel_rfl) (fun _ _ _ h => h) (wanted_u (j := 13) (w1 := false) rfl rfl (by simp [evp_same, evp_ne, szp, hsz]) (by simp [evp_same, evp_ne, szp, hsz])) hS ?_
  refine gate_skip0 (i := 25) rfl (by rfl) (by kernel_rfl) (by kernel_rfl) (by kernel_rfl) (fun _ _ _ h => h) (wanted_u (j := 13) (w1 := false) rfl rfl (by simp [evp_same, evp_ne, szp, hsz]) (by simp [evp_same, evp_ne, szp, hsz])) hS ?_
  refine gate_skip0 (i := 26) rfl (by rfl) (by kernel_rfl) (by kernel_rfl) (by kernel_rfl) (fun _ _ _ h => h) (wanted_f (j := 2) (w1 := true) (b := false) rfl rfl (by simp [evp_same, evp_ne, szp, hsz]) (by simp [evp_same, evp_ne, szp, hsz]) rfl) hS ?_
  refine gate_take0 (i := 27) (v := (.bool false)) rfl (by rfl) (by kernel_rfl) (by kernel_rfl) (by kernel_rfl) (fun _ _ _ h => h) rfl (fun V => by first | (simp [execOp, put_none, evp_same, evp_ne, szp, hsz, e0]; done) | simp [execOp, put_none, evp_same, evp_ne, szp, hsz, e0, go_sem]) hS ?_
  refine gate_one (i := 28) (by kernel_rfl) ?_
  refine wpOp_value (w' := w1) (v := (.bool false)) rfl rfl (by simp [execOp, put_none, evp_same, evp_ne, szp, hsz, e0]) ⟨fun h => Bool.noConfusion (show true = false from h), ?_⟩
  refine gate_done (by kernel_rfl) ?_ _
  subst hA
  go_wp2_with fail
  go_ret
  exact ⟨rfl, h2⟩
set_option maxHeartbeats 8000000 in
theorem colon_b1 {w : World} {W : World} {F : Fr} {R : Nat} {A : Option Addr} {n c s : Nat} {v : Value} {P : List NK} {b : List Int} (E : Env w A n c b) (h : Rd w F R A n c W s v P) (hq : b.getD s 0 = 58) (hq2 : s + 1 = n) :
    Calls Tryz.prog 65 #[.pointer (some ⟨R, 0, none⟩)] W fun e W' => e = .returned (.bool true) ∧ Rd w F R A n c W' (s + 1) v P := by
  have hsm := E.small
  have hs := h.hs
  have hnc := E.le
  have hcm := E.cap
  have h1 : Rd w F R A n c W.drew s v P := h.below (Below.refl _ _).drew
  have HC := Lib.hid (skip_any E h1 58 (by decide) true (by rw [hq]; rfl))
  have HE := Lib.hid E
  clear E h h1
  go_enter Tryz.func65, Tryz.ntmps65
  go_wp2_with fail
  refine gen_act fun a0 hA => ?_
  have hsz : a0.tmps.size = 31 := by rw [hA]; rfl
  have e0 : a0.eval (.tmp 0) = .pointer (some ⟨R, 0, none⟩) := by rw [hA]; rfl
  refine wp_region_any (by kernel_rfl) ?_
  change wpAny _ _ _ _ 29 _ _ _
  refine any_one (i := 0) (by kernel_rfl) ?_
  refine wpOp_value (w' := W.drew) (v := .pointer (some ⟨R, 0, none⟩)) rfl rfl (by simp [execOp, put_none, evp_same, evp_ne, szp, hsz, e0]) ?_
  refine any_one (i := 1) (by kernel_rfl) ?_
  refine wpOp_callX rfl rfl (skip_run _ _ (.tmp 3) (.const (.int .u8 58)) #[68, 5] rfl (.pointer (some ⟨R, 0, none⟩)) (.int .u8 58) (by simp [evp_same, evp_ne, szp, hsz]) rfl _) HC.out ?_
  rintro e w1 ⟨rfl, h2⟩
  refine ⟨_, rfl, ?_⟩
  have h2 : Rd w F R _ n c w1 (s + 1) v P := h2
  have k1 := h2.st.c1
  rw [show ((s + 1 : Nat) : Int) = (s : Int) + 1 by omega] at k1
  have hS : w1.cell? ⟨R, 0, none⟩ = some (.slice A n c) ∧ w1.cell? ⟨R, 1, none⟩ = some (.int .i64 ((s : Int) + 1)) := ⟨h2.st.c0, k1⟩
  have d2 : ((s : Int) + 1 == (n : Int)) = true := beq_iff_eq.2 (by omega)
  have d3 : ((s : Int) + 1 = (n : Int)) := by omega
  clear hq2
  refine any_of_gate (S := fun V => V.cell? ⟨R, 0, none⟩ = some (.slice A n c) ∧ V.cell? ⟨R, 1, none⟩ = some (.int .i64 ((s : Int) + 1))) (t := 28) _ _ _ _ ?_
  change wpGate _ _ _ _ _ _ 27 _ _ _
  refine gate_take0 (i := 2) (v := (.bool true)) rfl (by rfl) (by kernel_rfl) (by kernel_rfl) (by kernel_rfl) (fun _ _ _ h => h) rfl (fun V => by first | (simp [execOp, put_none, evp_same, evp_ne, szp, hsz, e0]; done) | simp [execOp, put_none, evp_same, evp_ne, szp, hsz, e0, go_sem, d3]) hS ?_
  refine gate_take0 (i := 3) (v := (.pointer (some ⟨R, 0, none⟩))) rfl (by rfl) (by kernel_rfl) (by kernel_rfl) (by kernel_rfl) (fun _ _ _ h => h) (wanted_t (j := 2) (w1 := true) (b := true) rfl rfl (by simp [evp_same, evp_ne, szp, hsz]) (by simp [evp_same, evp_ne, szp, hsz]) rfl) (fun V => by first | (simp [execOp, put_none, evp_same, evp_ne, szp, hsz, e0]; done) | simp [execOp, put_none, evp_same, evp_ne, szp, hsz, e0, go_sem, d3]) hS ?_
  refine gate_take0 (i := 4) (v := (.pointer (some ⟨R, 0, none⟩))) rfl (by rfl) (by kernel_rfl) (by kernel_rfl) (by kernel_rfl) (fun _ _ _ h => h) (wanted_t (j := 2) (w1 := true) (b := true) rfl rfl (by simp [evp_same, evp_ne, szp, hsz]) (by simp [evp_same, evp_ne, szp, hsz]) rfl) (fun V => by first | (simp [execOp, put_none, evp_same, evp_ne, szp, hsz, e0]; done) | simp [execOp, put_none, evp_same, evp_ne, szp, hsz, e0, go_sem, d3]) hS ?_
  refine gate_take0 (i := 5) (v := (.pointer (some ⟨R, 1, none⟩))) rfl (by rfl) (by kernel_rfl) (by kernel_rfl) (by kernel_rfl) (fun _ _ _ h => h) (wanted_t (j := 2) (w1 := true) (b := true) rfl rfl (by simp [evp_same, evp_ne, szp, hsz]) (by simp [evp_same, evp_ne, szp, hsz]) rfl) (fun V => by first | (simp [execOp, put_none, evp_same, evp_ne, szp, hsz, e0]; done) | simp [execOp, put_none, evp_same, evp_ne, szp, hsz, e0, go_sem, d3]) hS ?_
  refine gate_take (i := 6) (v := (.int .i64 ((s : Int) + 1))) rfl (by rfl) (by kernel_rfl) (by kernel_rfl) (by kernel_rfl) (by kernel_rfl) (by kernel_rfl) (fun _ _ _ h => h) (wanted_t (j := 2) (w1 := true) (b := true) rfl rfl (by simp [evp_same, evp_ne, szp, hsz]) (by simp [evp_same, evp_ne, szp, hsz]) rfl) (fun V hV => by simp [execOp, put_none, evp_same, evp_ne, szp, hsz, e0, go_sem, hV.2]) hS ?_
  refine gate_take0 (i := 7) (v := (.pointer (some ⟨R, 0, none⟩))) rfl (by rfl) (by kernel_rfl) (by kernel_rfl) (by kernel_rfl) (fun _ _ _ h => h) (wanted_t (j := 2) (w1 := true) (b := true) rfl rfl (by simp [evp_same, evp_ne, szp, hsz]) (by simp [evp_same, evp_ne, szp, hsz]) rfl) (fun V => by first | (simp [execOp, put_none, evp_same, evp_ne, szp, hsz, e0]; done) | simp [execOp, put_none, evp_same, evp_ne, szp, hsz, e0, go_sem, d3]) hS ?_
  refine gate_take0 (i := 8) (v := (.pointer (some ⟨R, 0, none⟩))) rfl (by rfl) (by kernel_rfl) (by kernel_rfl) (by kernel_rfl) (fun _ _ _ h => h) (wanted_t (j := 2) (w1 := true) (b := true) rfl rfl (by simp [evp_same, evp_ne, szp, hsz]) (by simp [evp_same, evp_ne, szp, hsz]) rfl) (fun V => by first | (simp [execOp, put_none, evp_same, evp_ne, szp, hsz, e0]; done) | simp [execOp, put_none, evp_same, evp_ne, szp, hsz, e0, go_sem, d3]) hS ?_
  refine gate_take0 (i := 9) (v := (.pointer (some ⟨R, 0, none⟩))) rfl (by rfl) (by kernel_rfl) (by kernel_rfl) (by kernel_rfl) (fun _ _ _ h => h) (wanted_t (j := 2) (w1 := true) (b := true) rfl rfl (by simp [evp_same, evp_ne, szp, hsz]) (by simp [evp_same, evp_ne, szp, hsz]) rfl) (fun V => by first | (simp [execOp, put_none, evp_same, evp_ne, szp, hsz, e0]; done) | simp [execOp, put_none, evp_same, evp_ne, szp, hsz, e0, go_sem, d3]) hS ?_
  refine gate_take (i := 10) (v := (.slice A n c)) rfl (by rfl) (by kernel_rfl) (by kernel_rfl) (by kernel_rfl) (by kernel_rfl) (by kernel_rfl) (fun _ _ _ h => h) (wanted_t (j := 2) (w1 := true) (b := true) rfl rfl (by simp [evp_same, evp_ne, szp, hsz]) (by simp [evp_same, evp_ne, szp, hsz]) rfl) (fun V hV => by simp [execOp, put_none, evp_same, evp_ne, szp, hsz, e0, go_sem, hV.1]) hS ?_
  refine gate_take0 (i := 11) (v := (.int .i64 (n : Int))) rfl (by rfl) (by kernel_rfl) (by kernel_rfl) (by kernel_rfl) (fun _ _ _ h => h) (wanted_t (j := 2) (w1 := true) (b := true) rfl rfl (by simp [evp_same, evp_ne, szp, hsz]) (by simp [evp_same, evp_ne, szp, hsz]) rfl) (fun V => by first | (simp [execOp, put_none, evp_same, evp_ne, szp, hsz, e0]; done) | simp [execOp, put_none, evp_same, evp_ne, szp, hsz, e0, go_sem, d3]) hS ?_
  refine gate_take0 (i := 12) (v := (.bool true)) rfl (by rfl) (by kernel_rfl) (by kernel_rfl) (by kernel_rfl) (fun _ _ _ h => h) (wanted_t (j := 2) (w1 := true) (b := true) rfl rfl (by simp [evp_same, evp_ne, szp, hsz]) (by simp [evp_same, evp_ne, szp, hsz]) rfl) (fun V => by first | (simp [execOp, put_none, evp_same, evp_ne, szp, hsz, e0]; done) | simp [execOp, put_none, evp_same, evp_ne, szp, hsz, e0, go_sem, d3]) hS ?_
  refine gate_take0 (i := 13) (v := (.bool true)) rfl (by rfl) (by kernel_rfl) (by kernel_rfl) (by kernel_rfl) (fun _ _ _ h => h) (wanted_t (j := 2) (w1 := true) (b := true) rfl rfl (by simp [evp_same, evp_ne, szp, hsz]) (by simp [evp_same, evp_ne, szp, hsz]) rfl) (fun V => by first | (simp [execOp, put_none, evp_same, evp_ne, szp, hsz, e0]; done) | simp [execOp, put_none, evp_same, evp_ne, szp, hsz, e0, go_sem, d3]) hS ?_
  refine gate_skip0 (i := 14) rfl (by rfl) (by kernel_rfl) (by kernel_rfl) (by kernel_rfl) (fun _ _ _ h => h) (wanted_f (j := 13) (w1 := false) (b := true) rfl rfl (by simp [evp_same, evp_ne, szp, hsz]) (by simp [evp_same, evp_ne, szp, hsz]) rfl) hS ?_
  refine gate_skip0 (i := 15) rfl (by rfl) (by kernel_rfl) (by kernel_rfl) (by kernel_rfl) (fun _ _ _ h => h) (wanted_f (j := 13) (w1 := false) (b := true) rfl rfl (by simp [evp_same, evp_ne, szp, hsz]) (by simp [evp_same, evp_ne, szp, hsz]) rfl) hS ?_
  refine gate_skip0 (i := 16) rfl (by rfl) (by kernel_rfl) (by kernel_rfl) (by kernel_rfl) (fun _ _ _ h => h) (wanted_f (j := 13) (w1 := false) (b := true) rfl rfl (by simp [evp_same, evp_ne, szp, hsz]) (by simp [evp_same, evp_ne, szp, hsz]) rfl) hS ?_
  refine gate_skip0 (i := 17) rfl (by rfl) (by kernel_rfl) (by kernel_rfl) (by kernel_rfl) (fun _ _ _ h => h) (wanted_f (j := 13) (w1 := false) (b := true) rfl rfl (by simp [evp_same, evp_ne, szp, hsz]) (by simp [evp_same, evp_ne, szp, hsz]) rfl) hS ?_
  refine gate_skip0 (i := 18) rfl (by rfl) (by kernel_rfl) (by kernel_rfl) (by kernel_rfl) (fun _ _ _ h => h) (wanted_f (j := 13) (w1 := false) (b := true) rfl rfl (by simp [evp_same, evp_ne, szp, hsz]) (by simp [evp_same, evp_ne, szp, hsz]) rfl) hS ?_
  refine gate_skip0 (i := 19) rfl (by rfl) (by kernel_rfl) (by kernel_rfl) (by kernel_rfl) (fun _ _ _ h => h) (wanted_f (j := 13) (w1 := false) (b := true) rfl rfl (by simp [evp_same, evp_ne, szp, hsz]) (by simp [evp_same, evp_ne, szp, hsz]) rfl) hS ?_
  refine gate_skip0 (i := 20) rfl (by rfl) (by kernel_rfl) (by kernel_rfl) (by kernel_rfl) (fun _ _ _ h => h) (wanted_f (j := 13) (w1 := false) (b := true) rfl rfl (by simp [evp_same, evp_ne, szp, hsz]) (by simp [evp_same, evp_ne, szp, hsz]) rfl) hS ?_
  refine gate_skip0 (i := 21) rfl (by rfl) (by kernel_rfl) (by kernel_rfl) (by kernel_rfl) (fun _ _ _ h => h) (wanted_f (j := 13) (w1 := false) (b := true) rfl rfl (by simp [evp_same, evp_ne, szp, hsz]) (by simp [evp_same, evp_ne, szp, hsz]) rfl) hS ?_
  refine gate_skip0 (i := 22) rfl (by rfl) (by kernel_rfl) (by kernel_rfl) (by kernel_rfl) (fun _ _ _ h => h) (wanted_f (j := 13) (w1 := false) (b := true) rfl rfl (by simp [evp_same, evp_ne, szp, hsz]) (by simp [evp_same, evp_ne, szp, hsz]) rfl) hS ?_
  refine gate_skip0 (i := 23) rfl (by rfl) (by kernel_rfl) (by kernel_rfl) (by kernel_rfl) (fun _ _ _ h => h) (wanted_f (j := 13) (w1 := false) (b := true) rfl rfl (by simp [evp_same, evp_ne, szp, hsz]) (by simp [evp_same, evp_ne, szp, hsz]) rfl) hS ?_
  refine gate_skip0 (i := 24) rfl (by rfl) (by kernel_rfl) (by kernel_rfl) (by kernel_rfl) (fun _ _ _ h => h) (wanted_f (j := 13) (w1 := false) (b := true) rfl rfl (by simp [evp_same, evp_ne, szp, hsz]) (by simp [evp_same, evp_ne, szp, hsz]) rfl) hS ?_
  refine gate_skip0 (i := 25) rfl (by rfl) (by kernel_rfl) (by kernel_rfl) (by kernel_rfl) (fun _ _ _ h => h) (wanted_f (j := 13) (w1 := false) (b := true) rfl rfl (by simp [evp_same, evp_ne, szp, hsz]) (by simp [evp_same, evp_ne, szp, hsz]) rfl) hS ?_
  refine gate_take0 (i := 26) (v := (.bool true)) rfl (by rfl) (by kernel_rfl) (by kernel_rfl) (by kernel_rfl) (fun _ _ _ h => h) (wanted_t (j := 2) (w1 := true) (b := true) rfl rfl (by simp [evp_same, evp_ne, szp, hsz]) (by simp [evp_same, evp_ne, szp, hsz]) rfl) (fun V => by first | (simp [execOp, put_none, evp_same, evp_ne, szp, hsz, e0]; done) | simp [execOp, put_none, evp_same, evp_ne, szp, hsz, e0, go_sem, d3]) hS ?_
  refine gate_take0 (i := 27) (v := (.bool true)) rfl (by rfl) (by kernel_rfl) (by kernel_rfl) (by kernel_rfl) (fun _ _ _ h => h) rfl (fun V => by first | (simp [execOp, put_none, evp_same, evp_ne, szp, hsz, e0]; done) | simp [execOp, put_none, evp_same, evp_ne, szp, hsz, e0, go_sem, d3]) hS ?_
  refine gate_one (i := 28) (by kernel_rfl) ?_
  refine wpOp_value (w' := w1) (v := (.bool true)) rfl rfl (by simp [execOp, put_none, evp_same, evp_ne, szp, hsz, e0]) ⟨fun h => Bool.noConfusion (show true = false from h), ?_⟩
  refine gate_done (by kernel_rfl) ?_ _
  subst hA
  go_wp2_with fail
  go_ret
  exact ⟨rfl, h2⟩
theorem gate_let {P : Program} {ops : Array Oper} {Q : Exit → Act → World → Prop} {md : Region.Mode} {S : World → Prop} {t n : Nat} {L : Array Bool} {a : Act} {w : World} (h : ∀ a1 : Act, a1 = a → wpGate P md ops Q S t n L a1 w) : wpGate P md ops Q S t n L a w := h a rfl
set_option maxHeartbeats 8000000 in
theorem colon_b2 {w : World} {W : World} {F : Fr} {R : Nat} {A : Option Addr} {n c s : Nat} {v : Value} {P : List NK} {b : List Int} (E : Env w A n c b) (h : Rd w F R A n c W s v P) (hq : b.getD s 0 = 58) (hq2 : s + 1 < n) :
    Calls Tryz.prog 65 #[.pointer (some ⟨R, 0, none⟩)] W fun e W' => e = .returned (.bool ([32, 44, 125].contains (b.getD (s + 1) 0))) ∧ Rd w F R A n c W' (s + 1) v P := by
  have hsm := E.small
  have hs := h.hs
  have hnc := E.le
  have hcm := E.cap
  have h1 : Rd w F R A n c W.drew s v P := h.below (Below.refl _ _).drew
  have HC := Lib.hid (skip_any E h1 58 (by decide) true (by rw [hq]; rfl))
  obtain ⟨bb, off, hAe, hcell⟩ := E.rd.addr (by rw [E.len]; omega)
  subst hAe
  have hz := E.byte.at_ (k := s + 1) (by rw [E.len]; omega)
  have hcz := hcell (s + 1) (by rw [E.len]; omega)
  generalize b.getD (s + 1) 0 = z at *
  obtain ⟨tt, htt⟩ : ∃ tt, (byt ⟨#[32, 44, 125]⟩).contains z = tt := ⟨_, rfl⟩
  have HIX : Hid (∀ V, Calls Tryz.prog 77 #[.string ⟨#[32, 44, 125]⟩, .int .u8 z] V (SignP tt V)) := fun V => by rw [← htt]; exact indexByteS_any ⟨#[32, 44, 125]⟩ z hz.1 hz.2 V
  have HCZ := Lib.hid hcz
  have hbz : [32, 44, 125].contains z = tt := htt
  rw [hbz]
  have HBZ := Lib.hid hbz
  clear hcell hcz hbz hz htt
  have HE := Lib.hid E
  clear E h h1
  go_enter Tryz.func65, Tryz.ntmps65
  go_wp2_with fail
  refine gen_act fun a0 hA => ?_
  have hsz : a0.tmps.size = 31 := by rw [hA]; rfl
  have e0 : a0.eval (.tmp 0) = .pointer (some ⟨R, 0, none⟩) := by rw [hA]; rfl
  refine wp_region_any (by kernel_rfl) ?_
  change wpAny _ _ _ _ 29 _ _ _
  refine any_one (i := 0) (by kernel_rfl) ?_
  refine wpOp_value (w' := W.drew) (v := .pointer (some ⟨R, 0, none⟩)) rfl rfl (by simp [execOp, put_none, evp_same, evp_ne, szp, hsz, e0]) ?_
  refine any_one (i := 1) (by kernel_rfl) ?_
  refine wpOp_callX rfl rfl (skip_run _ _ (.tmp 3) (.const (.int .u8 58)) #[68, 5] rfl (.pointer (some ⟨R, 0, none⟩)) (.int .u8 58) (by simp [evp_same, evp_ne, szp, hsz]) rfl _) HC.out ?_
  rintro e w1 ⟨rfl, h2⟩
  refine ⟨_, rfl, ?_⟩
  have h2 : Rd w F R _ n c w1 (s + 1) v P := h2
  have k1 := h2.st.c1
  rw [show ((s + 1 : Nat) : Int) = (s : Int) + 1 by omega] at k1
  have hS : w1.cell? ⟨R, 0, none⟩ = some (.slice (some ⟨bb, off, none⟩) n c) ∧ w1.cell? ⟨R, 1, none⟩ = some (.int .i64 ((s : Int) + 1)) ∧ w1.cell? ⟨bb, off + (s + 1), none⟩ = some (.int .u8 z) := ⟨h2.st.c0, k1, cell_keep h2.bel HCZ.out⟩
  have d : (s : Int) + 1 < (n : Int) := by omega
  have d2 : ((s : Int) + 1 == (n : Int)) = false := beq_eq_false_iff_ne.2 (by omega)
  have d3 : ¬ ((s : Int) + 1 = (n : Int)) := by omega
  have d4 : ¬ ((s : Int) + 1 < 0) := by omega
  refine any_of_gate (S := fun V => V.cell? ⟨R, 0, none⟩ = some (.slice (some ⟨bb, off, none⟩) n c) ∧ V.cell? ⟨R, 1, none⟩ = some (.int .i64 ((s : Int) + 1)) ∧ V.cell? ⟨bb, off + (s + 1), none⟩ = some (.int .u8 z)) (t := 28) _ _ _ _ ?_
  change wpGate _ _ _ _ _ _ 27 _ _ _
  refine gate_take0 (i := 2) (v := (.bool true)) rfl (by rfl) (by kernel_rfl) (by kernel_rfl) (by kernel_rfl) (fun _ _ _ h => h) rfl (fun V => by first | (simp [execOp, put_none, evp_same, evp_ne, szp, hsz, e0]; done) | simp [execOp, put_none, evp_same, evp_ne, szp, hsz, e0, go_sem, d, d2, d3, d4]) hS ?_
  refine gate_take0 (i := 3) (v := (.pointer (some ⟨R, 0, none⟩))) rfl (by rfl) (by kernel_rfl) (by kernel_rfl) (by kernel_rfl) (fun _ _ _ h => h) (wanted_t (j := 2) (w1 := true) (b := true) rfl rfl (by simp [evp_same, evp_ne, szp, hsz]) (by simp [evp_same, evp_ne, szp, hsz]) rfl) (fun V => by first | (simp [execOp, put_none, evp_same, evp_ne, szp, hsz, e0]; done) | simp [execOp, put_none, evp_same, evp_ne, szp, hsz, e0, go_sem, d, d2, d3, d4]) hS ?_
  refine gate_take0 (i := 4) (v := (.pointer (some ⟨R, 0, none⟩))) rfl (by rfl) (by kernel_rfl) (by kernel_rfl) (by kernel_rfl) (fun _ _ _ h => h) (wanted_t (j := 2) (w1 := true) (b := true) rfl rfl (by simp [evp_same, evp_ne, szp, hsz]) (by simp [evp_same, evp_ne, szp, hsz]) rfl) (fun V => by first | (simp [execOp, put_none, evp_same, evp_ne, szp, hsz, e0]; done) | simp [execOp, put_none, evp_same, evp_ne, szp, hsz, e0, go_sem, d, d2, d3, d4]) hS ?_
  refine gate_take0 (i := 5) (v := (.pointer (some ⟨R, 1, none⟩))) rfl (by rfl) (by kernel_rfl) (by kernel_rfl) (by kernel_rfl) (fun _ _ _ h => h) (wanted_t (j := 2) (w1 := true) (b := true) rfl rfl (by simp [evp_same, evp_ne, szp, hsz]) (by simp [evp_same, evp_ne, szp, hsz]) rfl) (fun V => by first | (simp [execOp, put_none, evp_same, evp_ne, szp, hsz, e0]; done) | simp [execOp, put_none, evp_same, evp_ne, szp, hsz, e0, go_sem, d, d2, d3, d4]) hS ?_
  refine gate_take (i := 6) (v := (.int .i64 ((s : Int) + 1))) rfl (by rfl) (by kernel_rfl) (by kernel_rfl) (by kernel_rfl) (by kernel_rfl) (by kernel_rfl) (fun _ _ _ h => h) (wanted_t (j := 2) (w1 := true) (b := true) rfl rfl (by simp [evp_same, evp_ne, szp, hsz]) (by simp [evp_same, evp_ne, szp, hsz]) rfl) (fun V hV => by simp [execOp, put_none, evp_same, evp_ne, szp, hsz, e0, go_sem, hV.2.1]) hS ?_
  refine gate_take0 (i := 7) (v := (.pointer (some ⟨R, 0, none⟩))) rfl (by rfl) (by kernel_rfl) (by kernel_rfl) (by kernel_rfl) (fun _ _ _ h => h) (wanted_t (j := 2) (w1 := true) (b := true) rfl rfl (by simp [evp_same, evp_ne, szp, hsz]) (by simp [evp_same, evp_ne, szp, hsz]) rfl) (fun V => by first | (simp [execOp, put_none, evp_same, evp_ne, szp, hsz, e0]; done) | simp [execOp, put_none, evp_same, evp_ne, szp, hsz, e0, go_sem, d, d2, d3, d4]) hS ?_
  refine gate_take0 (i := 8) (v := (.pointer (some ⟨R, 0, none⟩))) rfl (by rfl) (by kernel_rfl) (by kernel_rfl) (by kernel_rfl) (fun _ _ _ h => h) (wanted_t (j := 2) (w1 := true) (b := true) rfl rfl (by simp [evp_same, evp_ne, szp, hsz]) (by simp [evp_same, evp_ne, szp, hsz]) rfl) (fun V => by first | (simp [execOp, put_none, evp_same, evp_ne, szp, hsz, e0]; done) | simp [execOp, put_none, evp_same, evp_ne, szp, hsz, e0, go_sem, d, d2, d3, d4]) hS ?_
  refine gate_take0 (i := 9) (v := (.pointer (some ⟨R, 0, none⟩))) rfl (by rfl) (by kernel_rfl) (by kernel_rfl) (by kernel_rfl) (fun _ _ _ h => h) (wanted_t (j := 2) (w1 := true) (b := true) rfl rfl (by simp [evp_same, evp_ne, szp, hsz]) (by simp [evp_same, evp_ne, szp, hsz]) rfl) (fun V => by first | (simp [execOp, put_none, evp_same, evp_ne, szp, hsz, e0]; done) | simp [execOp, put_none, evp_same, evp_ne, szp, hsz, e0, go_sem, d, d2, d3, d4]) hS ?_
  refine gate_take (i := 10) (v := (.slice (some ⟨bb, off, none⟩) n c)) rfl (by rfl) (by kernel_rfl) (by kernel_rfl) (by kernel_rfl) (by kernel_rfl) (by kernel_rfl) (fun _ _ _ h => h) (wanted_t (j := 2) (w1 := true) (b := true) rfl rfl (by simp [evp_same, evp_ne, szp, hsz]) (by simp [evp_same, evp_ne, szp, hsz]) rfl) (fun V hV => by simp [execOp, put_none, evp_same, evp_ne, szp, hsz, e0, go_sem, hV.1]) hS ?_
  refine gate_take0 (i := 11) (v := (.int .i64 (n : Int))) rfl (by rfl) (by kernel_rfl) (by kernel_rfl) (by kernel_rfl) (fun _ _ _ h => h) (wanted_t (j := 2) (w1 := true) (b := true) rfl rfl (by simp [evp_same, evp_ne, szp, hsz]) (by simp [evp_same, evp_ne, szp, hsz]) rfl) (fun V => by first | (simp [execOp, put_none, evp_same, evp_ne, szp, hsz, e0]; done) | simp [execOp, put_none, evp_same, evp_ne, szp, hsz, e0, go_sem, d, d2, d3, d4]) hS ?_
  refine gate_take0 (i := 12) (v := (.bool false)) rfl (by rfl) (by kernel_rfl) (by kernel_rfl) (by kernel_rfl) (fun _ _ _ h => h) (wanted_t (j := 2) (w1 := true) (b := true) rfl rfl (by simp [evp_same, evp_ne, szp, hsz]) (by simp [evp_same, evp_ne, szp, hsz]) rfl) (fun V => by first | (simp [execOp, put_none, evp_same, evp_ne, szp, hsz, e0]; done) | simp [execOp, put_none, evp_same, evp_ne, szp, hsz, e0, go_sem, d, d2, d3, d4]) hS ?_
  refine gate_take0 (i := 13) (v := (.bool false)) rfl (by rfl) (by kernel_rfl) (by kernel_rfl) (by kernel_rfl) (fun _ _ _ h => h) (wanted_t (j := 2) (w1 := true) (b := true) rfl rfl (by simp [evp_same, evp_ne, szp, hsz]) (by simp [evp_same, evp_ne, szp, hsz]) rfl) (fun V => by first | (simp [execOp, put_none, evp_same, evp_ne, szp, hsz, e0]; done) | simp [execOp, put_none, evp_same, evp_ne, szp, hsz, e0, go_sem, d, d2, d3, d4]) hS ?_
  refine gate_take0 (i := 14) (v := (.pointer (some ⟨R, 0, none⟩))) rfl (by rfl) (by kernel_rfl) (by kernel_rfl) (by kernel_rfl) (fun _ _ _ h => h) (wanted_t (j := 13) (w1 := false) (b := false) rfl rfl (by simp [evp_same, evp_ne, szp, hsz]) (by simp [evp_same, evp_ne, szp, hsz]) rfl) (fun V => by first | (simp [execOp, put_none, evp_same, evp_ne, szp, hsz, e0]; done) | simp [execOp, put_none, evp_same, evp_ne, szp, hsz, e0, go_sem, d, d2, d3, d4]) hS ?_
  refine gate_take0 (i := 15) (v := (.pointer (some ⟨R, 0, none⟩))) rfl (by rfl) (by kernel_rfl) (by kernel_rfl) (by kernel_rfl) (fun _ _ _ h => h) (wanted_t (j := 13) (w1 := false) (b := false) rfl rfl (by simp [evp_same, evp_ne, szp, hsz]) (by simp [evp_same, evp_ne, szp, hsz]) rfl) (fun V => by first | (simp [execOp, put_none, evp_same, evp_ne, szp, hsz, e0]; done) | simp [execOp, put_none, evp_same, evp_ne, szp, hsz, e0, go_sem, d, d2, d3, d4]) hS ?_
  refine gate_take0 (i := 16) (v := (.pointer (some ⟨R, 0, none⟩))) rfl (by rfl) (by kernel_rfl) (by kernel_rfl) (by kernel_rfl) (fun _ _ _ h => h) (wanted_t (j := 13) (w1 := false) (b := false) rfl rfl (by simp [evp_same, evp_ne, szp, hsz]) (by simp [evp_same, evp_ne, szp, hsz]) rfl) (fun V => by first | (simp [execOp, put_none, evp_same, evp_ne, szp, hsz, e0]; done) | simp [execOp, put_none, evp_same, evp_ne, szp, hsz, e0, go_sem, d, d2, d3, d4]) hS ?_
  refine gate_take (i := 17) (v := (.slice (some ⟨bb, off, none⟩) n c)) rfl (by rfl) (by kernel_rfl) (by kernel_rfl) (by kernel_rfl) (by kernel_rfl) (by kernel_rfl) (fun _ _ _ h => h) (wanted_t (j := 13) (w1 := false) (b := false) rfl rfl (by simp [evp_same, evp_ne, szp, hsz]) (by simp [evp_same, evp_ne, szp, hsz]) rfl) (fun V hV => by simp [execOp, put_none, evp_same, evp_ne, szp, hsz, e0, go_sem, hV.1]) hS ?_
  refine gate_take0 (i := 18) (v := (.pointer (some ⟨R, 0, none⟩))) rfl (by rfl) (by kernel_rfl) (by kernel_rfl) (by kernel_rfl) (fun _ _ _ h => h) (wanted_t (j := 13) (w1 := false) (b := false) rfl rfl (by simp [evp_same, evp_ne, szp, hsz]) (by simp [evp_same, evp_ne, szp, hsz]) rfl) (fun V => by first | (simp [execOp, put_none, evp_same, evp_ne, szp, hsz, e0]; done) | simp [execOp, put_none, evp_same, evp_ne, szp, hsz, e0, go_sem, d, d2, d3, d4]) hS ?_
  refine gate_take0 (i := 19) (v := (.pointer (some ⟨R, 0, none⟩))) rfl (by rfl) (by kernel_rfl) (by kernel_rfl) (by kernel_rfl) (fun _ _ _ h => h) (wanted_t (j := 13) (w1 := false) (b := false) rfl rfl (by simp [evp_same, evp_ne, szp, hsz]) (by simp [evp_same, evp_ne, szp, hsz]) rfl) (fun V => by first | (simp [execOp, put_none, evp_same, evp_ne, szp, hsz, e0]; done) | simp [execOp, put_none, evp_same, evp_ne, szp, hsz, e0, go_sem, d, d2, d3, d4]) hS ?_
  refine gate_take0 (i := 20) (v := (.pointer (some ⟨R, 1, none⟩))) rfl (by rfl) (by kernel_rfl) (by kernel_rfl) (by kernel_rfl) (fun _ _ _ h => h) (wanted_t (j := 13) (w1 := false) (b := false) rfl rfl (by simp [evp_same, evp_ne, szp, hsz]) (by simp [evp_same, evp_ne, szp, hsz]) rfl) (fun V => by first | (simp [execOp, put_none, evp_same, evp_ne, szp, hsz, e0]; done) | simp [execOp, put_none, evp_same, evp_ne, szp, hsz, e0, go_sem, d, d2, d3, d4]) hS ?_
  refine gate_take (i := 21) (v := (.int .i64 ((s : Int) + 1))) rfl (by rfl) (by kernel_rfl) (by kernel_rfl) (by kernel_rfl) (by kernel_rfl) (by kernel_rfl) (fun _ _ _ h => h) (wanted_t (j := 13) (w1 := false) (b := false) rfl rfl (by simp [evp_same, evp_ne, szp, hsz]) (by simp [evp_same, evp_ne, szp, hsz]) rfl) (fun V hV => by simp [execOp, put_none, evp_same, evp_ne, szp, hsz, e0, go_sem, hV.2.1]) hS ?_
  refine gate_take0 (i := 22) (v := (.pointer (some ⟨bb, off + (s + 1), none⟩))) rfl (by rfl) (by kernel_rfl) (by kernel_rfl) (by kernel_rfl) (fun _ _ _ h => h) (wanted_t (j := 13) (w1 := false) (b := false) rfl rfl (by simp [evp_same, evp_ne, szp, hsz]) (by simp [evp_same, evp_ne, szp, hsz]) rfl) (fun V => by first | (simp [execOp, put_none, evp_same, evp_ne, szp, hsz, e0]; done) | simp [execOp, put_none, evp_same, evp_ne, szp, hsz, e0, go_sem, d, d2, d3, d4]) hS ?_
  refine gate_take (i := 23) (v := (.int .u8 z)) rfl (by rfl) (by kernel_rfl) (by kernel_rfl) (by kernel_rfl) (by kernel_rfl) (by kernel_rfl) (fun _ _ _ h => h) (wanted_t (j := 13) (w1 := false) (b := false) rfl rfl (by simp [evp_same, evp_ne, szp, hsz]) (by simp [evp_same, evp_ne, szp, hsz]) rfl) (fun V hV => by simp [execOp, put_none, evp_same, evp_ne, szp, hsz, e0, go_sem, hV.2.2]) hS ?_
  refine gate_let fun a1 hA1 => ?_
  have hsz1 : a1.tmps.size = 31 := by rw [hA1]; simp [szp, hsz]
  have g5 : a1.eval (.tmp 5) = .bool true := by rw [hA1]; simp [evp_same, evp_ne, szp, hsz]
  have g15 : a1.eval (.tmp 15) = .bool false := by rw [hA1]; simp [evp_same, evp_ne, szp, hsz]
  have g16 : a1.eval (.tmp 16) = .bool false := by rw [hA1]; simp [evp_same, evp_ne, szp, hsz]
  have g26 : a1.eval (.tmp 26) = .int .u8 z := by rw [hA1]; simp [evp_same, evp_ne, szp, hsz]
  refine gate_one (i := 24) (by kernel_rfl) ?_
  refine wpOp_callX (f := 77) (args := #[.string ⟨#[32, 44, 125]⟩, .int .u8 z]) (C := SignP tt w1) rfl (wanted_t (j := 13) (w1 := false) (b := false) rfl rfl (by simp [evp_same, evp_ne, szp, hsz1, g5, g15, g16, g26]) (by simp [evp_same, evp_ne, szp, hsz1, g5, g15, g16, g26]) rfl) (ixs_run _ _ (.const (.string ⟨#[32, 44, 125]⟩)) (.tmp 26) #[9, 5] rfl (.string ⟨#[32, 44, 125]⟩) (.int .u8 z) rfl (by simp [evp_same, evp_ne, szp, hsz1, g5, g15, g16, g26]) w1) (HIX.out w1) ?_
  rintro e w3 ⟨q, hq, rfl, rfl⟩
  refine ⟨_, rfl, fun _ => hS, ?_⟩
  refine gate_take0 (i := 25) (v := (.bool (decide (0 ≤ q)))) rfl (by rfl) (by kernel_rfl) (by kernel_rfl) (by kernel_rfl) (fun _ _ _ h => h) (wanted_t (j := 13) (w1 := false) (b := false) rfl rfl (by simp [evp_same, evp_ne, szp, hsz1, g5, g15, g16, g26]) (by simp [evp_same, evp_ne, szp, hsz1, g5, g15, g16, g26]) rfl) (fun V => by first | (simp [execOp, put_none, evp_same, evp_ne, szp, hsz1, g5, g15, g16, g26]; done) | (simp [execOp, put_none, evp_same, evp_ne, szp, hsz1, g5, g15, g16, g26]; simp [go_sem]; done) | simp [execOp, put_none, evp_same, evp_ne, szp, hsz1, g5, g15, g16, g26, go_sem, d, d2, d3, d4]) hS ?_
  refine gate_take0 (i := 26) (v := (.bool (decide (0 ≤ q)))) rfl (by rfl) (by kernel_rfl) (by kernel_rfl) (by kernel_rfl) (fun _ _ _ h => h) (wanted_t (j := 2) (w1 := true) (b := true) rfl rfl (by simp [evp_same, evp_ne, szp, hsz1, g5, g15, g16, g26]) (by simp [evp_same, evp_ne, szp, hsz1, g5, g15, g16, g26]) rfl) (fun V => by first | (simp [execOp, put_none, evp_same, evp_ne, szp, hsz1, g5, g15, g16, g26]; done) | (simp [execOp, put_none, evp_same, evp_ne, szp, hsz1, g5, g15, g16, g26]; simp [go_sem]; done) | simp [execOp, put_none, evp_same, evp_ne, szp, hsz1, g5, g15, g16, g26, go_sem, d, d2, d3, d4]) hS ?_
  refine gate_take0 (i := 27) (v := (.bool (decide (0 ≤ q)))) rfl (by rfl) (by kernel_rfl) (by kernel_rfl) (by kernel_rfl) (fun _ _ _ h => h) rfl (fun V => by first | (simp [execOp, put_none, evp_same, evp_ne, szp, hsz1, g5, g15, g16, g26]; done) | (simp [execOp, put_none, evp_same, evp_ne, szp, hsz1, g5, g15, g16, g26]; simp [go_sem]; done) | simp [execOp, put_none, evp_same, evp_ne, szp, hsz1, g5, g15, g16, g26, go_sem, d, d2, d3, d4]) hS ?_
  refine gate_one (i := 28) (by kernel_rfl) ?_
  refine wpOp_value (w' := w1) (v := (.bool (decide (0 ≤ q)))) rfl rfl (by simp [execOp, put_none, evp_same, evp_ne, szp, hsz1, g5, g15, g16, g26]) ⟨fun h => Bool.noConfusion (show true = false from h), ?_⟩
  refine gate_done (by kernel_rfl) ?_ _
  subst hA1 hA
  go_wp2_with fail
  go_ret
  exact ⟨rfl, h2⟩
/-- What an entry (an item, a pair) leaves: its parent has more Kids, the list more nodes. -/
def EntP (w : World) (F : Fr) (R : Nat) (A : Option Addr) (n c : Nat) (P : List NK) (i : Nat) (x : Nd) (r : InE) (e : Ending) (W' : World) : Prop :=
  match r with
  | .error k => e = .returned (.int .i64 k) ∧ Below w.heap.size w W' ∧ k ≠ 0
  | .ok (ks, l, m) => e = .returned (.int .i64 0) ∧ ∃ v' k' Q, Rd w F R A n c W' m v' (P.set i ({ x with kids := x.kids ++ ks }, k') ++ Q) ∧ lst Q = l
def EntC (w : World) (F : Fr) (R : Nat) (A : Option Addr) (n c : Nat) (fn : FuncId) (ent : Nat → Nat → InE) (d : Int) : Prop :=
  ∀ (W : World) (s : Nat) (v : Value) (P : List NK) (i : Nat) (x : Nd) (k : Value), Rd w F R A n c W s v P → P[i]? = some (x, k) → P.length ≤ s + 1 → x.kids.length ≤ s + 1 →
    Calls Tryz.prog fn #[.pointer (some ⟨R, 0, none⟩), .int .i64 (i : Int), .int .i64 d] W (EntP w F R A n c P i x (ent s P.length))
set_option maxHeartbeats 2000000 in
theorem item_at {w : World} {F : Fr} {R : Nat} {A : Option Addr} {n c : Nat} {b : List Int} {f : Nat} (E : Env w A n c b) (C : NodeC w F R A n c b f) (d : Int) (hd0 : 0 ≤ d) (hd1 : d ≤ 1000000) (hf : (64 - d).toNat = f) :
    EntC w F R A n c 51 (inItem (inNode f b true)) d := by
  intro W s v P i x k h hp hn hk
  have HC := Lib.hid (child_at E C h hp hn hk d hd0 hd1 hf)
  obtain ⟨l, hl⟩ : ∃ l, P.length = l := ⟨_, rfl⟩
  rw [hl] at HC ⊢
  have HL := Lib.hid hl
  obtain ⟨r, hr⟩ : ∃ r, inItem (inNode f b true) s l = r := ⟨_, rfl⟩
  rw [hr]
  unfold inItem at hr
  obtain ⟨r2, hr2⟩ : ∃ r2, inNode f b true s l = r2 := ⟨_, rfl⟩
  rw [hr2] at HC hr
  have HR := Lib.hid hr
  clear h E C hp hn hk hd0 hd1 hf hl hr hr2
  go_enter Tryz.func51, Tryz.ntmps51
  go_wp2_with fail
  refine HC.out.mono ?_
  intro e w1 h1
  cases r2 with
  | error q =>
    obtain ⟨rfl, hb1, hq0⟩ := h1
    have hr2 : r = .error q := HR.out.symm
    subst hr2
    have HB1 := Lib.hid hb1
    have HQ0 := Lib.hid hq0
    clear hb1 HC hq0
    go_wp2_with fail
    go_ret
    exact ⟨rfl, HB1.out, HQ0.out⟩
  | ok y =>
    obtain ⟨nl, m⟩ := y
    obtain ⟨rfl, v1, k', Q, h1, hq⟩ := h1
    have H1 := Lib.hid h1
    have HQ := Lib.hid hq
    clear h1 hq HC
    by_cases hms : m = s
    · have hb : (m == s) = true := beq_iff_eq.2 hms
      have hr : r = .error 2 := by rw [← HR.out]; exact if_pos hms
      subst hr
      rw [hb]
      clear hms hb HR
      go_wp2_with fail
      go_ret
      exact ⟨rfl, H1.out.bel, by decide⟩
    · have hb : (m == s) = false := beq_eq_false_iff_ne.2 hms
      have hr : r = .ok ([l], nl, m) := by rw [← HR.out]; exact if_neg hms
      subst hr
      rw [hb]
      clear hms hb HR
      go_wp2_with fail
      go_ret
      exact ⟨rfl, v1, k', Q, by rw [← HL.out]; exact H1.out, HQ.out⟩
theorem colon_at {w : World} {W : World} {F : Fr} {R : Nat} {A : Option Addr} {n c s : Nat} {v : Value} {P : List NK} {b : List Int} (E : Env w A n c b) (h : Rd w F R A n c W s v P) (t : Bool) (ht : inColon b s = t) :
    Calls Tryz.prog 65 #[.pointer (some ⟨R, 0, none⟩)] W fun e W' => e = .returned (.bool t) ∧ ∃ s', Rd w F R A n c W' s' v P ∧ (t = true → s' = s + 1) := by
  subst ht
  by_cases hq : b.getD s 0 = 58
  · have hlt := getD_lt (b := b) (k := s) (by rw [hq]; decide)
    rw [E.len] at hlt
    by_cases h1 : s + 1 = n
    · have hc : inColon b s = true := by unfold inColon; rw [hq, E.len, h1]; simp
      rw [hc]
      exact (colon_b1 E h hq h1).mono fun e W' ⟨g1, g2⟩ => ⟨g1, _, g2, fun _ => rfl⟩
    · have hc : inColon b s = [32, 44, 125].contains (b.getD (s + 1) 0) := by
        unfold inColon; rw [hq, E.len, beq_eq_false_iff_ne.2 h1]; rfl
      rw [hc]
      exact (colon_b2 E h hq (by omega)).mono fun e W' ⟨g1, g2⟩ => ⟨g1, _, g2, fun _ => rfl⟩
  · have hc : inColon b s = false := by unfold inColon; rw [beq_eq_false_iff_ne.2 hq]; rfl
    rw [hc]
    exact (colon_a E h hq).mono fun e W' ⟨g1, g2⟩ => ⟨g1, _, g2, fun h => by cases h⟩
theorem pair_lists {P : List NK} {i : Nat} {x : Nd} {k k' k2 : Value} {key : NK} {l : Nat} (hl : P.length = l) (hp : P[i]? = some (x, k)) :
    (moreKid P i (x, k) k' ++ [key])[i]? = some ({ x with kids := x.kids ++ [l] }, k') ∧
    moreKid (moreKid P i (x, k) k' ++ [key]) i ({ x with kids := x.kids ++ [l] }, k') k2 = P.set i ({ x with kids := x.kids ++ [l, l + 1] }, k2) ++ [key] := by
  have hi := (List.getElem?_eq_some_iff.1 hp).1
  subst hl
  constructor
  · unfold moreKid
    rw [List.getElem?_append_left (by simpa using hi), List.getElem?_set_self hi]
  · unfold moreKid
    simp only [List.length_append, List.length_set, List.length_singleton, List.append_assoc, List.cons_append, List.nil_append]
    rw [List.set_append_left _ _ (by simpa using hi), List.set_set]
set_option maxHeartbeats 4000000 in
theorem pair_at {w : World} {F : Fr} {R : Nat} {A : Option Addr} {n c : Nat} {b : List Int} {f : Nat} (E : Env w A n c b) (C : NodeC w F R A n c b f) (d : Int) (hd0 : 0 ≤ d) (hd1 : d ≤ 1000000) (hf : (64 - d).toNat = f) :
    EntC w F R A n c 52 (inPair (inNode f b true) b) d := by
  intro W s v P i x k h hp hn hk
  have hsm := E.small
  have hs := h.hs
  have c1 := h.st.c1
  have HK := Lib.hid (key_at E h hp (by omega) (by show x.kids.length ≤ _; omega))
  obtain ⟨l, hl⟩ : ∃ l, P.length = l := ⟨_, rfl⟩
  rw [hl] at hn ⊢
  have HL := Lib.hid hl
  have HP := Lib.hid hp
  have HE := Lib.hid E
  have HC := Lib.hid C
  have HF := Lib.hid hf
  have hks := fun x m (hx : inKey b s = some (x, m)) => key_size (b := b) (s := s) (by rw [E.len]; exact hs) hx
  obtain ⟨r, hr⟩ : ∃ r, inPair (inNode f b true) b s l = r := ⟨_, rfl⟩
  rw [hr]
  obtain ⟨o, ho⟩ : ∃ o, inKey b s = o := ⟨_, rfl⟩
  rw [ho] at HK hks
  unfold inPair at hr
  rw [ho] at hr
  clear h E C hp hl hf ho
  cases o with
  | none =>
    obtain rfl : r = .error 2 := hr.symm
    clear hr hks
    go_enter Tryz.func52, Tryz.ntmps52
    go_wp2_with fail
    refine HK.out.mono ?_
    rintro e w1 ⟨rfl, hb1⟩
    have HB1 := Lib.hid hb1
    clear hb1 HK
    go_wp2_with fail
    go_ret
    exact ⟨rfl, HB1.out, by decide⟩
  | some xm =>
    obtain ⟨kx, n0⟩ := xm
    have hks := hks kx n0 rfl
    rw [HE.out.len] at hks
    simp only [] at hr
    obtain ⟨t, ht⟩ : ∃ t, inBlk b n0 = t := ⟨_, rfl⟩
    rw [ht] at hr
    have ht0 := blk_ge b n0
    rw [ht] at ht0
    have HT := Lib.hid ht
    clear ht
    obtain ⟨col, hcol⟩ : ∃ q, inColon b t = q := ⟨_, rfl⟩
    rw [hcol] at hr
    have HCOL := Lib.hid hcol
    clear hcol
    cases col with
    | false =>
      obtain rfl : r = .error 2 := by rw [← hr]; rfl
      clear hr
      go_enter Tryz.func52, Tryz.ntmps52
      go_wp2_with fail
      refine HK.out.mono ?_
      rintro e w1 ⟨rfl, v1, k', h1⟩
      have H1 := Lib.hid h1
      clear h1 HK
      go_wp2_with fail
      refine (blanks_at HE.out H1.out t HT.out).mono ?_
      rintro e w2 ⟨rfl, h2⟩
      have H2 := Lib.hid h2
      clear h2 H1
      go_wp2_with fail
      refine (colon_at HE.out H2.out false HCOL.out).mono ?_
      rintro e w3 ⟨rfl, s', h3, _⟩
      have H3 := Lib.hid h3
      clear h3 H2
      go_wp2_with fail
      go_ret
      exact ⟨rfl, H3.out.bel, by decide⟩
    | true =>
      rw [if_pos rfl] at hr
      have htl := colon_lt HCOL.out
      rw [HE.out.len] at htl
      obtain ⟨s2, hs2⟩ : ∃ s2, inBlk b (t + 1) = s2 := ⟨_, rfl⟩
      rw [hs2] at hr
      have hs20 := blk_ge b (t + 1)
      rw [hs2] at hs20
      have HS2 := Lib.hid hs2
      clear hs2
      obtain ⟨q, hq⟩ : ∃ q, l + 1 = q := ⟨_, rfl⟩
      rw [hq] at hr
      obtain ⟨r2, hr2⟩ : ∃ r2, inNode f b true s2 q = r2 := ⟨_, rfl⟩
      rw [hr2] at hr
      have HR2 := Lib.hid hr2
      have HR := Lib.hid hr
      have HQ := Lib.hid hq
      clear hr2 hr
      go_enter Tryz.func52, Tryz.ntmps52
      go_wp2_with fail
      refine HK.out.mono ?_
      rintro e w1 ⟨rfl, v1, k', h1⟩
      obtain ⟨pl1, pl2⟩ := pair_lists (k' := k') (k2 := k') (key := (kx, Value.slice none 0 0)) HL.out HP.out
      have PL2 := Lib.hid (fun k2 => (pair_lists (k' := k') (k2 := k2) (key := (kx, Value.slice none 0 0)) HL.out HP.out).2)
      have pl3 : (moreKid P i (x, k) k' ++ [(kx, Value.slice none 0 0)]).length = q := by rw [List.length_append, more_len, HL.out, List.length_singleton, HQ.out]
      obtain ⟨P1, hP1⟩ : ∃ P1, moreKid P i (x, k) k' ++ [(kx, Value.slice none 0 0)] = P1 := ⟨_, rfl⟩
      rw [hP1] at h1 pl1 pl3
      have HP1 := Lib.hid hP1
      have PL1 := Lib.hid pl1
      have PL3 := Lib.hid pl3
      have H1 := Lib.hid h1
      clear h1 HK hP1 pl1 pl2 pl3 hq
      go_wp2_with fail
      refine (blanks_at HE.out H1.out t HT.out).mono ?_
      rintro e w2 ⟨rfl, h2⟩
      have H2 := Lib.hid h2
      clear h2 H1
      go_wp2_with fail
      refine (colon_at HE.out H2.out true HCOL.out).mono ?_
      rintro e w3 ⟨rfl, s', h3, hs'⟩
      obtain rfl := hs' rfl
      have r1 := h3.st.c1
      have H3 := Lib.hid h3
      clear h3 H2 hs'
      rw [show ((t + 1 : Nat) : Int) = (t : Int) + 1 by omega] at r1
      go_wp2_with fail
      refine (blanks_at HE.out H3.out s2 HS2.out).mono ?_
      rintro e w4 ⟨rfl, h4⟩
      have H4 := Lib.hid h4
      clear h4 H3 r1
      go_wp2_with fail
      have hch := child_at HE.out HC.out H4.out PL1.out (by rw [PL3.out, ← HQ.out]; omega) (by show (x.kids ++ [l]).length ≤ _; rw [List.length_append, List.length_singleton]; omega) d hd0 hd1 HF.out
      rw [PL3.out, HR2.out] at hch
      refine hch.mono ?_
      intro e w5 h5
      cases r2 with
      | error qe =>
        obtain ⟨rfl, hb5, hq0⟩ := h5
        have hne : (qe != 0) = true := bne_iff_ne.2 hq0
        have HB5 := Lib.hid hb5
        have HQ0 := Lib.hid hq0
        clear hb5 hq0 hch
        go_wp2_with fail
        go_ret
        rw [← HR.out]
        exact ⟨rfl, HB5.out, HQ0.out⟩
      | ok y =>
        obtain ⟨nl, m⟩ := y
        obtain ⟨rfl, v5, k2, Q, h5, hlq⟩ := h5
        rw [PL3.out]
        have hnl := (node_size b f true s2 q nl m (by rw [HE.out.len]; exact H4.out.hs) HR2.out).2.2.1
        rw [← HP1.out, PL2.out k2] at h5
        rw [HQ.out] at h5
        have ha : (P.set i ({ x with kids := x.kids ++ [l, q] }, k2) ++ [(kx, Value.slice none 0 0)]).length = q := by rw [List.length_append, List.length_set, HL.out, List.length_singleton, HQ.out]
        obtain ⟨q0, Qt, rfl⟩ : ∃ q0 Qt, Q = q0 :: Qt := by
          cases Q with
          | nil => rw [← hlq] at hnl; simp [lst] at hnl
          | cons a t => exact ⟨a, t, rfl⟩
        obtain ⟨PA, hPA⟩ : ∃ PA, P.set i ({ x with kids := x.kids ++ [l, q] }, k2) ++ [(kx, Value.slice none 0 0)] = PA := ⟨_, rfl⟩
        rw [hPA] at h5 ha
        have hat : (PA ++ q0 :: Qt)[q]? = some q0 := by rw [List.getElem?_append_right (by omega), ha, Nat.sub_self]; rfl
        have hset : ∀ y y' : NK, (PA ++ y :: Qt).set q y' = PA ++ y' :: Qt := fun y y' => by rw [List.set_append_right _ _ (by omega), ha, Nat.sub_self]; rfl
        obtain ⟨g, cap, rfl, hg1, hg2, hg3, hg4⟩ := h5.form (by rw [List.length_append, List.length_cons]; omega)
        obtain ⟨l5, hl5⟩ : ∃ l5, (PA ++ q0 :: Qt).length = l5 := ⟨_, rfl⟩
        have hql : (q : Int) < (l5 : Int) := by rw [← hl5, List.length_append, ha, List.length_cons]; omega
        rw [hl5] at h5 hg1
        have y5 := h5.cell hl5 hat 5 _ rfl
        have y6 := h5.cell hl5 hat 6 _ rfl
        have y7 := h5.cell hl5 hat 7 _ rfl
        have y8 := h5.cell hl5 hat 8 _ rfl
        have f5 := h5.frozen hl5 (q * 10 + 5)
        have f6 := h5.frozen hl5 (q * 10 + 6)
        have f7 := h5.frozen hl5 (q * 10 + 7)
        have f8 := h5.frozen hl5 (q * 10 + 8)
        have r2 := h5.st.c2
        obtain ⟨h7, l7, p7⟩ := h5.set hl5 hat (p' := ({ q0.1 with hd := s }, q0.2)) 7 (by omega) (.int .i64 (s : Int)) rfl rfl rfl
        obtain ⟨h8, l8, p8⟩ := h7.set l7 p7 (p' := ({ q0.1 with hd := s, mr := t + 1 }, q0.2)) 8 (by omega) (.int .i64 ((t : Int) + 1)) rfl rfl rfl
        obtain ⟨h9, l9, p9⟩ := h8.set l8 p8 (p' := ({ q0.1 with hd := s, mr := t + 1, st := t + 1 }, q0.2)) 5 (by omega) (.int .i64 ((t : Int) + 1)) rfl rfl rfl
        obtain ⟨h10, l10, p10⟩ := h9.set l9 p9 (p' := ({ q0.1 with hd := s, mr := t + 1, st := t + 1, en := t + 1 }, q0.2)) 6 (by omega) (.int .i64 ((t : Int) + 1)) rfl rfl rfl
        simp only [List.set_set, hset] at h8 h10
        have H8 := Lib.hid h8
        have H10 := Lib.hid h10
        have HPA := Lib.hid hPA
        have HLQ := Lib.hid hlq
        clear h5 h7 h8 h9 h10 l7 l8 l9 l10 p7 p8 p9 p10 hPA hlq hch hset hat hnl ha hl5
        by_cases hms : m = s2
        · have hb : (m == s2) = true := beq_iff_eq.2 hms
          have hb' : ((m == s2) : Bool) = true := hb
          rw [hb]
          clear hms
          go_wp2_with fail
          go_ret
          rw [← HR.out]
          refine ⟨rfl, .slice (some ⟨g, 0, none⟩) l5 cap, k2, (kx, .slice none 0 0) :: ({ q0.1 with hd := s, mr := t + 1, st := t + 1, en := t + 1 }, q0.2) :: Qt, ?_, ?_⟩
          · have := H10.out
            rw [← HPA.out, List.append_assoc] at this
            exact this
          · rw [← HLQ.out, hb']; rfl
        · have hb : (m == s2) = false := beq_eq_false_iff_ne.2 hms
          have hb' : ((m == s2) : Bool) = false := hb
          rw [hb]
          clear hms
          go_wp2_with fail
          go_ret
          rw [← HR.out]
          refine ⟨rfl, .slice (some ⟨g, 0, none⟩) l5 cap, k2, (kx, .slice none 0 0) :: ({ q0.1 with hd := s, mr := t + 1 }, q0.2) :: Qt, ?_, ?_⟩
          · have := H8.out
            rw [← HPA.out, List.append_assoc] at this
            exact this
          · rw [← HLQ.out, hb']; rfl
/-- What collection leaves, in place of the last node of P0 ++ [nilK]. -/
def CollP (w : World) (F : Fr) (R : Nat) (A : Option Addr) (n c : Nat) (P0 : List NK) (kd : Int) (r : InE) (e : Ending) (W' : World) : Prop :=
  match r with
  | .error k => e = .returned (.int .i64 k) ∧ Below w.heap.size w W' ∧ k ≠ 0
  | .ok (ks, l, m) => e = .returned (.int .i64 0) ∧ ∃ v' k' Q, Rd w F R A n c W' m v' (P0 ++ ({ Nd.nil with kind := kd, style := 7, kids := ks }, k') :: Q) ∧ lst Q = l
/-- The entry's call, by its function's value. -/
def entV (R : Nat) (fn : FuncId) : Value := .func (.func fn) #[.pointer (some ⟨R, 0, none⟩)] #[]
set_option maxHeartbeats 1000000 in
theorem coll_deep {w : World} {F : Fr} {R : Nat} {A : Option Addr} {n c : Nat} {W : World} {s : Nat} {v : Value} {P : List NK} (h : Rd w F R A n c W s v P) (i : Nat) (kd d x : Int) (hd : 64 ≤ d) (fv : Value) :
    Calls Tryz.prog 50 #[.pointer (some ⟨R, 0, none⟩), .int .i64 (i : Int), .int .i64 kd, .int .i64 d, .int .u8 x, fv] W fun e W' => e = .returned (.int .i64 3) ∧ Below w.heap.size w W' := by
  have HB := Lib.hid h.bel
  clear h
  go_enter Tryz.func50, Tryz.ntmps50
  go_wp2_with fail
  go_ret
  exact ⟨rfl, HB.out⟩
theorem coll_lists {P0 Q Q2 : List NK} {y z : NK} {l : Nat} (hl : P0.length = l) : (P0 ++ y :: Q)[l]? = some y ∧ (P0 ++ y :: Q).set l z ++ Q2 = P0 ++ z :: (Q ++ Q2) := by
  subst hl
  constructor
  · rw [List.getElem?_append_right (Nat.le_refl _), Nat.sub_self]; rfl
  · rw [List.set_append_right _ _ (Nat.le_refl _), Nat.sub_self, List.append_assoc]; rfl
theorem loop_succ (ent : Nat → Nat → InE) (b : List Int) (c : Int) (g s base : Nat) (ks : List Nat) (bl : List Nd) : inLoop ent b c (g + 1) s base ks bl = (match ent s base with
    | .error e => .error e
    | .ok (k, l, n) =>
      if b.getD (inBlk b n) 0 = c then .ok (ks ++ k, bl ++ l, inBlk b n + 1)
      else if b.getD (inBlk b n) 0 = 44 then inLoop ent b c g (inBlk b (inBlk b n + 1)) (base + l.length) (ks ++ k) (bl ++ l)
      else .error 2) := rfl
set_option maxHeartbeats 4000000 in
theorem coll_item {w : World} {F : Fr} {R : Nat} {A : Option Addr} {n c : Nat} {b : List Int} (E : Env w A n c b) (ent : Nat → Nat → InE) (hsz : SizeE b ent) (hkl : ∀ s base k l n, s ≤ b.length → ent s base = .ok (k, l, n) → k.length ≤ l.length) (d : Int) (hd0 : 0 ≤ d) (hd : d < 64) (C : EntC w F R A n c 51 ent (d + 1))
    {W : World} {s : Nat} {v : Value} {P0 : List NK} {l : Nat} (hl : P0.length = l) (h : Rd w F R A n c W s v (P0 ++ [nilK])) (hn : l ≤ s + 1) (kd x : Int) (hx0 : x ≠ 0) (hx44 : x ≠ 44) (hs : s < n) :
    Calls Tryz.prog 50 #[.pointer (some ⟨R, 0, none⟩), .int .i64 (l : Int), .int .i64 kd, .int .i64 d, .int .u8 x, entV R 51] W (CollP w F R A n c P0 kd (inColl ent b x s (l + 1))) := by
  have hsm := E.small
  have HE := Lib.hid E
  have HC := Lib.hid C
  have HZ := Lib.hid hsz
  have HKL := Lib.hid hkl
  have HL := Lib.hid hl
  have hp : (P0 ++ [nilK])[l]? = some nilK := last_at hl
  obtain ⟨g, cap, rfl, hg1, hg2, hg3, hg4⟩ := h.form (by simp)
  obtain ⟨l1, hl1⟩ : ∃ l1, l + 1 = l1 := ⟨_, rfl⟩
  have hm : (P0 ++ [nilK]).length = l1 := by simp [hl, hl1]
  rw [hm] at h hg1
  rw [hl1]
  have HL1 := Lib.hid hl1
  have hRg : R ≠ g := by
    have := h.st.offv
    intro e; exact this (by rw [e]; rfl)
  have h1 : Rd w F R A n c W.drew s (.slice (some ⟨g, 0, none⟩) l1 cap) (P0 ++ [nilK]) := h.below (Below.refl _ _).drew
  have y0 := h.cell hm hp 0 _ rfl
  have y1 := h.cell hm hp 1 _ rfl
  have f0 := h.frozen hm (l * 10)
  have f1 := h.frozen hm (l * 10 + 1)
  rw [Nat.add_zero] at y0
  have c2 := h.st.c2
  have dl : (l : Int) < (l1 : Int) := by omega
  have dd : ¬ (64 : Int) ≤ d := by omega
  have HSET : Hid (∀ (V : World) (j : Nat) (u : Value), V.cell? ⟨R, 2, none⟩ = some (.slice (some ⟨g, 0, none⟩) l1 cap) → (V.setCell ⟨g, j, none⟩ u).cell? ⟨R, 2, none⟩ = some (.slice (some ⟨g, 0, none⟩) l1 cap)) := fun V j u hV => by
    rw [World.cell?_setCell_other _ _ _ _ (by intro e; injection e with e; exact hRg e.symm)]; exact hV
  have HSD := Lib.hid h1.st.c2
  obtain ⟨h3, l3, p3⟩ := h1.set hm hp (p' := ({ Nd.nil with kind := kd }, .slice none 0 0)) 0 (by omega) (.int .i64 kd) rfl rfl rfl
  obtain ⟨h4, l4, p4⟩ := h3.set l3 p3 (p' := ({ Nd.nil with kind := kd, style := 7 }, .slice none 0 0)) 1 (by omega) (.int .i64 7) rfl rfl rfl
  simp only [List.set_set, Nat.add_zero, last_set hl] at h4
  have H4 := Lib.hid h4
  clear E C hsz hkl hl hl1 hp h h1 h3 h4 l3 l4 p3 p4 hm hRg
  unfold entV
  go_enter Tryz.func50, Tryz.ntmps50
  go_wp2_with fail
  go_region_held3 (fun V => V.cell? ⟨R, 2, none⟩ = some (.slice (some ⟨g, 0, none⟩) l1 cap))
    (first | exact HSD.out | exact HSET.out _ _ _ HSD.out | exact HSET.out _ _ _ (HSET.out _ _ _ HSD.out))
    (fail)
  have h4 : Rd w F R A n c ((W.setCell ⟨g, l * 10, none⟩ (.int .i64 kd)).setCell ⟨g, l * 10 + 1, none⟩ (.int .i64 7)).drew s (.slice (some ⟨g, 0, none⟩) l1 cap) (P0 ++ [({ Nd.nil with kind := kd, style := 7 }, .slice none 0 0)]) := H4.out
  generalize ((W.setCell ⟨g, l * 10, none⟩ (.int .i64 kd)).setCell ⟨g, l * 10 + 1, none⟩ (.int .i64 7)).drew = W4 at *
  have r1 := h4.st.c1
  have z1 := h4.st.z 1
  have h5 := h4.move (s + 1) (by omega)
  rw [show ((s + 1 : Nat) : Int) = (s : Int) + 1 by omega] at h5
  have H5 := Lib.hid h5
  clear h4 h5 H4 HSD HSET y0 y1 f0 f1 c2
  go_wp2_with fail
  obtain ⟨a, ha⟩ : ∃ a, inBlk b (s + 1) = a := ⟨_, rfl⟩
  have HAB := Lib.hid ha
  have hage := blk_ge b (s + 1)
  rw [ha] at hage
  clear ha
  refine (blanks_at HE.out H5.out a HAB.out).mono ?_
  rintro e w6 ⟨rfl, h6⟩
  have ha6 := h6.hs
  have H6 := Lib.hid h6
  clear h6 H5 r1 z1
  go_wp2_with fail
  obtain ⟨t, ht⟩ : ∃ t, (b.getD a 0 == x) = t := ⟨_, rfl⟩
  have HT := Lib.hid ht
  clear ht
  refine (skip_any HE.out H6.out x hx0 t HT.out).mono ?_
  rintro e w7 ⟨rfl, h7⟩
  have H7 := Lib.hid h7
  clear h7 H6
  cases t with
  | true =>
    have hr : inColl ent b x s l1 = .ok ([], [], a + 1) := by
      unfold inColl; rw [HAB.out, if_pos (beq_iff_eq.1 HT.out)]
    have HRR := Lib.hid hr
    clear hr
    go_wp2_with fail
    go_ret
    rw [HRR.out]
    exact ⟨rfl, _, _, [], H7.out, rfl⟩
  | false =>
    have hr : inColl ent b x s l1 = inLoop ent b x (b.length + 1) a l1 [] [] := by
      unfold inColl; rw [HAB.out, if_neg (beq_eq_false_iff_ne.1 HT.out)]
    obtain ⟨r, hres⟩ : ∃ r, inColl ent b x s l1 = r := ⟨_, rfl⟩
    have HRES := Lib.hid hres
    have HRR := Lib.hid (hres.symm.trans hr)
    clear hr hres
    go_wp2_with fail
    go_loopg [12, 13] (n - a) (fun G u12 u13 W8 => ∃ (sc Gf : Nat) (ks : List Nat) (v8 k8 : Value) (Q : List NK), sc + G = n ∧ Hid (r = inLoop ent b x (Gf + 1) sc (l1 + Q.length) ks (lst Q) ∧ n - sc ≤ Gf ∧ Rd w F R A n c W8 sc v8 (P0 ++ ({ Nd.nil with kind := kd, style := 7, kids := ks }, k8) :: Q) ∧ l1 + Q.length ≤ sc + 1 ∧ ks.length ≤ sc + 1))
    case atStart => exact ⟨a, b.length, [], _, _, [], by omega, HRR.out, by rw [HE.out.len]; omega, H7.out, by have := HL1.out; simp only [List.length_nil]; omega, Nat.zero_le _⟩
    case round =>
      obtain ⟨sc, Gf, ks, v8, k8, Q, hsc, HK⟩ := hrel
      obtain ⟨W8, hW8⟩ : ∃ x, x = wr := ⟨_, rfl⟩
      subst hW8
      clear HRR HT H7 HAB hage ha6
      have hcl := coll_lists (Q := Q) (Q2 := []) (y := ({ Nd.nil with kind := kd, style := 7, kids := ks }, k8)) (z := nilK) HL.out
      have hPl : (P0 ++ ({ Nd.nil with kind := kd, style := 7, kids := ks }, k8) :: Q).length = l1 + Q.length := by rw [List.length_append, List.length_cons, HL.out, ← HL1.out]; omega
      have hcall := HC.out W8 sc v8 _ l _ k8 HK.out.2.2.1 hcl.1 (by rw [hPl]; exact HK.out.2.2.2.1) HK.out.2.2.2.2
      rw [hPl] at hcall
      obtain ⟨r2, hr2⟩ : ∃ r2, ent sc (l1 + Q.length) = r2 := ⟨_, rfl⟩
      rw [hr2] at hcall
      have HCALL := Lib.hid hcall
      have HR2 := Lib.hid hr2
      have hrl := HK.out.1
      rw [loop_succ, hr2] at hrl
      have HRL := Lib.hid hrl
      clear hcall hr2 hrl hcl hPl
      go_wp2_with fail
      refine HCALL.out.mono ?_
      intro e w9 h9
      cases r2 with
      | error qe =>
        obtain ⟨rfl, hb9, hq0⟩ := h9
        have hne : (qe != 0) = true := bne_iff_ne.2 hq0
        have HB9 := Lib.hid hb9
        have HQ0 := Lib.hid hq0
        clear hb9 hq0 HCALL
        go_wp2_with fail
        go_ret
        rw [HRES.out, HRL.out]
        exact ⟨rfl, HB9.out, HQ0.out⟩
      | ok y =>
        obtain ⟨k2, nl, m⟩ := y
        obtain ⟨rfl, v9, k9, Q2, h9, hlq⟩ := h9
        rw [(coll_lists HL.out).2] at h9
        have hz := HZ.out sc (l1 + Q.length) k2 nl m (by rw [HE.out.len]; exact HK.out.2.2.1.hs) HR2.out
        rw [HE.out.len] at hz
        have H9 := Lib.hid h9
        have HLQ := Lib.hid hlq
        have HZ9 := Lib.hid hz
        clear h9 hlq hz HCALL
        go_wp2_with fail
        obtain ⟨a2, ha2⟩ : ∃ a2, inBlk b m = a2 := ⟨_, rfl⟩
        have HA2 := Lib.hid ha2
        have ha2ge := blk_ge b m
        rw [ha2] at ha2ge
        clear ha2
        refine (blanks_at HE.out H9.out a2 HA2.out).mono ?_
        rintro e w10 ⟨rfl, h10⟩
        have H10 := Lib.hid h10
        clear h10 H9
        go_wp2_with fail
        obtain ⟨t1, ht1⟩ : ∃ t, (b.getD a2 0 == x) = t := ⟨_, rfl⟩
        have HT1 := Lib.hid ht1
        clear ht1
        refine (skip_any HE.out H10.out x hx0 t1 HT1.out).mono ?_
        rintro e w11 ⟨rfl, h11⟩
        have H11 := Lib.hid h11
        clear h11 H10
        have hrl := HRL.out
        simp only [HA2.out] at hrl
        cases t1 with
        | true =>
          rw [if_pos (beq_iff_eq.1 HT1.out)] at hrl
          have HRF := Lib.hid hrl
          clear hrl
          go_wp2_with fail
          go_ret
          rw [HRES.out, HRF.out]
          exact ⟨rfl, _, k9, Q ++ Q2, H11.out, by rw [lst_app, HLQ.out]⟩
        | false =>
          rw [if_neg (beq_eq_false_iff_ne.1 HT1.out)] at hrl
          have HRF := Lib.hid hrl
          clear hrl
          go_wp2_with fail
          obtain ⟨t2, ht2⟩ : ∃ t, (b.getD a2 0 == 44) = t := ⟨_, rfl⟩
          have HT2 := Lib.hid ht2
          clear ht2
          refine (skip_any HE.out H11.out 44 (by decide) t2 HT2.out).mono ?_
          rintro e w12 ⟨rfl, h12⟩
          have H12 := Lib.hid h12
          clear h12 H11
          have hrl := HRF.out
          cases t2 with
          | false =>
            rw [if_neg (beq_eq_false_iff_ne.1 HT2.out)] at hrl
            have HRG := Lib.hid hrl
            clear hrl
            go_wp2_with fail
            go_ret
            rw [HRES.out, HRG.out]
            exact ⟨rfl, H12.out.bel, by decide⟩
          | true =>
            rw [if_pos (beq_iff_eq.1 HT2.out)] at hrl
            have HRG := Lib.hid hrl
            clear hrl
            go_wp2_with fail
            obtain ⟨a3, ha3⟩ : ∃ a3, inBlk b (a2 + 1) = a3 := ⟨_, rfl⟩
            have HA3 := Lib.hid ha3
            have ha3ge := blk_ge b (a2 + 1)
            rw [ha3] at ha3ge
            clear ha3
            refine (blanks_at HE.out H12.out a3 HA3.out).mono ?_
            rintro e w13 ⟨rfl, h13⟩
            have H13 := Lib.hid h13
            have h13s := h13.hs
            clear h13 H12
            go_wp2_with fail
            go_roundg (n - a3)
            case measure => have := HZ9.out.1; omega
            case rel =>
              obtain ⟨g1, g2, g3, g4, g5⟩ := HK.out
              have hz := HZ9.out
              have hq2 : Q2.length = nl.length := by rw [← HLQ.out, lst_len]
              obtain ⟨Gf, rfl⟩ : ∃ q, Gf = q + 1 := ⟨Gf - 1, by omega⟩
              refine ⟨a3, Gf, ks ++ k2, _, k9, Q ++ Q2, by omega, ?_, by omega, H13.out, ?_, ?_⟩
              · have e := HRG.out
                rw [HA3.out] at e
                rw [e, lst_app, HLQ.out, List.length_append, hq2, Nat.add_assoc]
              · rw [List.length_append, hq2]; omega
              · have hk2 := HKL.out sc (l1 + Q.length) k2 nl m (by rw [HE.out.len]; exact g3.hs) HR2.out
                rw [List.length_append]; omega
set_option maxHeartbeats 4000000 in
theorem coll_pair {w : World} {F : Fr} {R : Nat} {A : Option Addr} {n c : Nat} {b : List Int} (E : Env w A n c b) (ent : Nat → Nat → InE) (hsz : SizeE b ent) (hkl : ∀ s base k l n, s ≤ b.length → ent s base = .ok (k, l, n) → k.length ≤ l.length) (d : Int) (hd0 : 0 ≤ d) (hd : d < 64) (C : EntC w F R A n c 52 ent (d + 1))
    {W : World} {s : Nat} {v : Value} {P0 : List NK} {l : Nat} (hl : P0.length = l) (h : Rd w F R A n c W s v (P0 ++ [nilK])) (hn : l ≤ s + 1) (kd x : Int) (hx0 : x ≠ 0) (hx44 : x ≠ 44) (hs : s < n) :
    Calls Tryz.prog 50 #[.pointer (some ⟨R, 0, none⟩), .int .i64 (l : Int), .int .i64 kd, .int .i64 d, .int .u8 x, entV R 52] W (CollP w F R A n c P0 kd (inColl ent b x s (l + 1))) := by
  have hsm := E.small
  have HE := Lib.hid E
  have HC := Lib.hid C
  have HZ := Lib.hid hsz
  have HKL := Lib.hid hkl
  have HL := Lib.hid hl
  have hp : (P0 ++ [nilK])[l]? = some nilK := last_at hl
  obtain ⟨g, cap, rfl, hg1, hg2, hg3, hg4⟩ := h.form (by simp)
  obtain ⟨l1, hl1⟩ : ∃ l1, l + 1 = l1 := ⟨_, rfl⟩
  have hm : (P0 ++ [nilK]).length = l1 := by simp [hl, hl1]
  rw [hm] at h hg1
  rw [hl1]
  have HL1 := Lib.hid hl1
  have hRg : R ≠ g := by
    have := h.st.offv
    intro e; exact this (by rw [e]; rfl)
  have h1 : Rd w F R A n c W.drew s (.slice (some ⟨g, 0, none⟩) l1 cap) (P0 ++ [nilK]) := h.below (Below.refl _ _).drew
  have y0 := h.cell hm hp 0 _ rfl
  have y1 := h.cell hm hp 1 _ rfl
  have f0 := h.frozen hm (l * 10)
  have f1 := h.frozen hm (l * 10 + 1)
  rw [Nat.add_zero] at y0
  have c2 := h.st.c2
  have dl : (l : Int) < (l1 : Int) := by omega
  have dd : ¬ (64 : Int) ≤ d := by omega
  have HSET : Hid (∀ (V : World) (j : Nat) (u : Value), V.cell? ⟨R, 2, none⟩ = some (.slice (some ⟨g, 0, none⟩) l1 cap) → (V.setCell ⟨g, j, none⟩ u).cell? ⟨R, 2, none⟩ = some (.slice (some ⟨g, 0, none⟩) l1 cap)) := fun V j u hV => by
    rw [World.cell?_setCell_other _ _ _ _ (by intro e; injection e with e; exact hRg e.symm)]; exact hV
  have HSD := Lib.hid h1.st.c2
  obtain ⟨h3, l3, p3⟩ := h1.set hm hp (p' := ({ Nd.nil with kind := kd }, .slice none 0 0)) 0 (by omega) (.int .i64 kd) rfl rfl rfl
  obtain ⟨h4, l4, p4⟩ := h3.set l3 p3 (p' := ({ Nd.nil with kind := kd, style := 7 }, .slice none 0 0)) 1 (by omega) (.int .i64 7) rfl rfl rfl
  simp only [List.set_set, Nat.add_zero, last_set hl] at h4
  have H4 := Lib.hid h4
  clear E C hsz hkl hl hl1 hp h h1 h3 h4 l3 l4 p3 p4 hm hRg
  unfold entV
  go_enter Tryz.func50, Tryz.ntmps50
  go_wp2_with fail
  go_region_held3 (fun V => V.cell? ⟨R, 2, none⟩ = some (.slice (some ⟨g, 0, none⟩) l1 cap))
    (first | exact HSD.out | exact HSET.out _ _ _ HSD.out | exact HSET.out _ _ _ (HSET.out _ _ _ HSD.out))
    (fail)
  have h4 : Rd w F R A n c ((W.setCell ⟨g, l * 10, none⟩ (.int .i64 kd)).setCell ⟨g, l * 10 + 1, none⟩ (.int .i64 7)).drew s (.slice (some ⟨g, 0, none⟩) l1 cap) (P0 ++ [({ Nd.nil with kind := kd, style := 7 }, .slice none 0 0)]) := H4.out
  generalize ((W.setCell ⟨g, l * 10, none⟩ (.int .i64 kd)).setCell ⟨g, l * 10 + 1, none⟩ (.int .i64 7)).drew = W4 at *
  have r1 := h4.st.c1
  have z1 := h4.st.z 1
  have h5 := h4.move (s + 1) (by omega)
  rw [show ((s + 1 : Nat) : Int) = (s : Int) + 1 by omega] at h5
  have H5 := Lib.hid h5
  clear h4 h5 H4 HSD HSET y0 y1 f0 f1 c2
  go_wp2_with fail
  obtain ⟨a, ha⟩ : ∃ a, inBlk b (s + 1) = a := ⟨_, rfl⟩
  have HAB := Lib.hid ha
  have hage := blk_ge b (s + 1)
  rw [ha] at hage
  clear ha
  refine (blanks_at HE.out H5.out a HAB.out).mono ?_
  rintro e w6 ⟨rfl, h6⟩
  have ha6 := h6.hs
  have H6 := Lib.hid h6
  clear h6 H5 r1 z1
  go_wp2_with fail
  obtain ⟨t, ht⟩ : ∃ t, (b.getD a 0 == x) = t := ⟨_, rfl⟩
  have HT := Lib.hid ht
  clear ht
  refine (skip_any HE.out H6.out x hx0 t HT.out).mono ?_
  rintro e w7 ⟨rfl, h7⟩
  have H7 := Lib.hid h7
  clear h7 H6
  cases t with
  | true =>
    have hr : inColl ent b x s l1 = .ok ([], [], a + 1) := by
      unfold inColl; rw [HAB.out, if_pos (beq_iff_eq.1 HT.out)]
    have HRR := Lib.hid hr
    clear hr
    go_wp2_with fail
    go_ret
    rw [HRR.out]
    exact ⟨rfl, _, _, [], H7.out, rfl⟩
  | false =>
    have hr : inColl ent b x s l1 = inLoop ent b x (b.length + 1) a l1 [] [] := by
      unfold inColl; rw [HAB.out, if_neg (beq_eq_false_iff_ne.1 HT.out)]
    obtain ⟨r, hres⟩ : ∃ r, inColl ent b x s l1 = r := ⟨_, rfl⟩
    have HRES := Lib.hid hres
    have HRR := Lib.hid (hres.symm.trans hr)
    clear hr hres
    go_wp2_with fail
    go_loopg [12, 13] (n - a) (fun G u12 u13 W8 => ∃ (sc Gf : Nat) (ks : List Nat) (v8 k8 : Value) (Q : List NK), sc + G = n ∧ Hid (r = inLoop ent b x (Gf + 1) sc (l1 + Q.length) ks (lst Q) ∧ n - sc ≤ Gf ∧ Rd w F R A n c W8 sc v8 (P0 ++ ({ Nd.nil with kind := kd, style := 7, kids := ks }, k8) :: Q) ∧ l1 + Q.length ≤ sc + 1 ∧ ks.length ≤ sc + 1))
    case atStart => exact ⟨a, b.length, [], _, _, [], by omega, HRR.out, by rw [HE.out.len]; omega, H7.out, by have := HL1.out; simp only [List.length_nil]; omega, Nat.zero_le _⟩
    case round =>
      obtain ⟨sc, Gf, ks, v8, k8, Q, hsc, HK⟩ := hrel
      obtain ⟨W8, hW8⟩ : ∃ x, x = wr := ⟨_, rfl⟩
      subst hW8
      clear HRR HT H7 HAB hage ha6
      have hcl := coll_lists (Q := Q) (Q2 := []) (y := ({ Nd.nil with kind := kd, style := 7, kids := ks }, k8)) (z := nilK) HL.out
      have hPl : (P0 ++ ({ Nd.nil with kind := kd, style := 7, kids := ks }, k8) :: Q).length = l1 + Q.length := by rw [List.length_append, List.length_cons, HL.out, ← HL1.out]; omega
      have hcall := HC.out W8 sc v8 _ l _ k8 HK.out.2.2.1 hcl.1 (by rw [hPl]; exact HK.out.2.2.2.1) HK.out.2.2.2.2
      rw [hPl] at hcall
      obtain ⟨r2, hr2⟩ : ∃ r2, ent sc (l1 + Q.length) = r2 := ⟨_, rfl⟩
      rw [hr2] at hcall
      have HCALL := Lib.hid hcall
      have HR2 := Lib.hid hr2
      have hrl := HK.out.1
      rw [loop_succ, hr2] at hrl
      have HRL := Lib.hid hrl
      clear hcall hr2 hrl hcl hPl
      go_wp2_with fail
      refine HCALL.out.mono ?_
      intro e w9 h9
      cases r2 with
      | error qe =>
        obtain ⟨rfl, hb9, hq0⟩ := h9
        have hne : (qe != 0) = true := bne_iff_ne.2 hq0
        have HB9 := Lib.hid hb9
        have HQ0 := Lib.hid hq0
        clear hb9 hq0 HCALL
        go_wp2_with fail
        go_ret
        rw [HRES.out, HRL.out]
        exact ⟨rfl, HB9.out, HQ0.out⟩
      | ok y =>
        obtain ⟨k2, nl, m⟩ := y
        obtain ⟨rfl, v9, k9, Q2, h9, hlq⟩ := h9
        rw [(coll_lists HL.out).2] at h9
        have hz := HZ.out sc (l1 + Q.length) k2 nl m (by rw [HE.out.len]; exact HK.out.2.2.1.hs) HR2.out
        rw [HE.out.len] at hz
        have H9 := Lib.hid h9
        have HLQ := Lib.hid hlq
        have HZ9 := Lib.hid hz
        clear h9 hlq hz HCALL
        go_wp2_with fail
        obtain ⟨a2, ha2⟩ : ∃ a2, inBlk b m = a2 := ⟨_, rfl⟩
        have HA2 := Lib.hid ha2
        have ha2ge := blk_ge b m
        rw [ha2] at ha2ge
        clear ha2
        refine (blanks_at HE.out H9.out a2 HA2.out).mono ?_
        rintro e w10 ⟨rfl, h10⟩
        have H10 := Lib.hid h10
        clear h10 H9
        go_wp2_with fail
        obtain ⟨t1, ht1⟩ : ∃ t, (b.getD a2 0 == x) = t := ⟨_, rfl⟩
        have HT1 := Lib.hid ht1
        clear ht1
        refine (skip_any HE.out H10.out x hx0 t1 HT1.out).mono ?_
        rintro e w11 ⟨rfl, h11⟩
        have H11 := Lib.hid h11
        clear h11 H10
        have hrl := HRL.out
        simp only [HA2.out] at hrl
        cases t1 with
        | true =>
          rw [if_pos (beq_iff_eq.1 HT1.out)] at hrl
          have HRF := Lib.hid hrl
          clear hrl
          go_wp2_with fail
          go_ret
          rw [HRES.out, HRF.out]
          exact ⟨rfl, _, k9, Q ++ Q2, H11.out, by rw [lst_app, HLQ.out]⟩
        | false =>
          rw [if_neg (beq_eq_false_iff_ne.1 HT1.out)] at hrl
          have HRF := Lib.hid hrl
          clear hrl
          go_wp2_with fail
          obtain ⟨t2, ht2⟩ : ∃ t, (b.getD a2 0 == 44) = t := ⟨_, rfl⟩
          have HT2 := Lib.hid ht2
          clear ht2
          refine (skip_any HE.out H11.out 44 (by decide) t2 HT2.out).mono ?_
          rintro e w12 ⟨rfl, h12⟩
          have H12 := Lib.hid h12
          clear h12 H11
          have hrl := HRF.out
          cases t2 with
          | false =>
            rw [if_neg (beq_eq_false_iff_ne.1 HT2.out)] at hrl
            have HRG := Lib.hid hrl
            clear hrl
            go_wp2_with fail
            go_ret
            rw [HRES.out, HRG.out]
            exact ⟨rfl, H12.out.bel, by decide⟩
          | true =>
            rw [if_pos (beq_iff_eq.1 HT2.out)] at hrl
            have HRG := Lib.hid hrl
            clear hrl
            go_wp2_with fail
            obtain ⟨a3, ha3⟩ : ∃ a3, inBlk b (a2 + 1) = a3 := ⟨_, rfl⟩
            have HA3 := Lib.hid ha3
            have ha3ge := blk_ge b (a2 + 1)
            rw [ha3] at ha3ge
            clear ha3
            refine (blanks_at HE.out H12.out a3 HA3.out).mono ?_
            rintro e w13 ⟨rfl, h13⟩
            have H13 := Lib.hid h13
            have h13s := h13.hs
            clear h13 H12
            go_wp2_with fail
            go_roundg (n - a3)
            case measure => have := HZ9.out.1; omega
            case rel =>
              obtain ⟨g1, g2, g3, g4, g5⟩ := HK.out
              have hz := HZ9.out
              have hq2 : Q2.length = nl.length := by rw [← HLQ.out, lst_len]
              obtain ⟨Gf, rfl⟩ : ∃ q, Gf = q + 1 := ⟨Gf - 1, by omega⟩
              refine ⟨a3, Gf, ks ++ k2, _, k9, Q ++ Q2, by omega, ?_, by omega, H13.out, ?_, ?_⟩
              · have e := HRG.out
                rw [HA3.out] at e
                rw [e, lst_app, HLQ.out, List.length_append, hq2, Nat.add_assoc]
              · rw [List.length_append, hq2]; omega
              · have hk2 := HKL.out sc (l1 + Q.length) k2 nl m (by rw [HE.out.len]; exact g3.hs) HR2.out
                rw [List.length_append]; omega
/-- What content leaves, in place of the last node of P0 ++ [nilK]. -/
def ContP (w : World) (F : Fr) (R : Nat) (A : Option Addr) (n c : Nat) (P0 : List NK) (r : Except Int (Nd × List Nd × Nat)) (e : Ending) (W' : World) : Prop :=
  match r with
  | .error k => e = .returned (.int .i64 k) ∧ Below w.heap.size w W' ∧ k ≠ 0
  | .ok (x, l, m) => e = .returned (.int .i64 0) ∧ ∃ v' k' Q, Rd w F R A n c W' m v' (P0 ++ (x, k') :: Q) ∧ lst Q = l
def inChild (f : Nat) (b : List Int) : Nat → Nat → InR := match f with
  | 0 => fun _ _ => .error 3
  | f + 1 => inNode f b true
theorem inNode_g (f : Nat) (b : List Int) (fl : Bool) (s base : Nat) : inNode f b fl s base = inNodeG (inChild f b) (f == 0) b fl s base := by cases f <;> rfl
theorem item_kl (child : Nat → Nat → InR) (b : List Int) (h : SizeC b child) : ∀ s base k l n, s ≤ b.length → inItem child s base = .ok (k, l, n) → k.length ≤ l.length := by
  intro s base k l n hs he
  unfold inItem at he
  cases hc : child s base with
  | error e => rw [hc] at he; cases he
  | ok x =>
    obtain ⟨l', n'⟩ := x
    rw [hc] at he
    simp only [] at he
    split at he
    · cases he
    · simp only [Except.ok.injEq, Prod.mk.injEq] at he
      obtain ⟨rfl, rfl, rfl⟩ := he
      exact (h s base l' n' hs hc).2.2.1
theorem pair_kl (child : Nat → Nat → InR) (b : List Int) (h : SizeC b child) : ∀ s base k l n, s ≤ b.length → inPair child b s base = .ok (k, l, n) → k.length ≤ l.length := by
  intro s base k l n hs he
  unfold inPair at he
  cases hk : inKey b s with
  | none => rw [hk] at he; cases he
  | some x =>
    obtain ⟨kx, n0⟩ := x
    rw [hk] at he
    simp only [] at he
    split at he
    · rename_i hcol
      have b2 := colon_lt hcol
      have b4 := blk_le (b := b) (s := inBlk b n0 + 1) (by omega)
      cases hc : child (inBlk b (inBlk b n0 + 1)) (base + 1) with
      | error e => rw [hc] at he; cases he
      | ok y =>
        obtain ⟨l', m⟩ := y
        rw [hc] at he
        simp only [Except.ok.injEq, Prod.mk.injEq] at he
        obtain ⟨rfl, rfl, rfl⟩ := he
        have := (h _ _ l' m b4 hc).2.2.1
        simp only [List.length_cons, List.length_nil, val_len]; omega
    · cases he
set_option maxHeartbeats 4000000 in
theorem content_at {w : World} {F : Fr} {R : Nat} {A : Option Addr} {n c : Nat} {b : List Int} {f : Nat} (E : Env w A n c b) (IH : ∀ f', f = f' + 1 → NodeC w F R A n c b f') (d : Int) (hd0 : 0 ≤ d) (hd1 : d ≤ 1000000) (hf : (64 - d).toNat = f)
    {W : World} {s : Nat} {v : Value} {P0 : List NK} {l : Nat} (hl : P0.length = l) (h : Rd w F R A n c W s v (P0 ++ [nilK])) (hn : l ≤ s + 1) (fl : Bool) :
    Calls Tryz.prog 35 #[.pointer (some ⟨R, 0, none⟩), .int .i64 (l : Int), .bool fl, .int .i64 d] W (ContP w F R A n c P0 (inCont (inChild f b) (f == 0) b fl s (l + 1))) := by
  have HE := Lib.hid E
  have HL := Lib.hid hl
  have HH := Lib.hid h
  obtain ⟨r, hr⟩ : ∃ r, inCont (inChild f b) (f == 0) b fl s (l + 1) = r := ⟨_, rfl⟩
  rw [hr]
  unfold inCont at hr
  by_cases h42 : b.getD s 0 = 42
  · rw [if_pos h42] at hr
    have HR := Lib.hid hr
    have HB := Lib.hid h42
    clear E hl h IH hf hr h42
    go_enter Tryz.func35, Tryz.ntmps35
    go_wp2_with fail
    refine (begins_any HE.out HH.out 42 (by decide) true (beq_iff_eq.2 HB.out)).mono ?_
    rintro e w1 ⟨rfl, m1, rfl⟩
    have H1 := Lib.hid (HH.out.draws m1)
    generalize W.drewN m1 = W1 at *
    clear HH
    go_wp2_with fail
    refine (alias_at HE.out H1.out (last_at HL.out)).mono ?_
    intro e w2 h2
    by_cases ha : (Pr.aliasF (b.drop s)).2.2 = true
    · rw [if_pos ha] at h2
      obtain ⟨rfl, v2, h2⟩ := h2
      rw [last_set HL.out] at h2
      have H2 := Lib.hid h2
      have hrr : r = _ := HR.out.symm.trans (if_pos ha)
      have HRR := Lib.hid hrr
      clear h2 ha hrr
      go_wp2_with fail
      go_ret
      rw [HRR.out]
      exact ⟨rfl, v2, _, [], H2.out, rfl⟩
    · rw [if_neg ha] at h2
      obtain ⟨rfl, hb2⟩ := h2
      have H2 := Lib.hid hb2
      have hrr : r = _ := HR.out.symm.trans (if_neg ha)
      have HRR := Lib.hid hrr
      clear hb2 ha hrr
      go_wp2_with fail
      go_ret
      rw [HRR.out]
      exact ⟨rfl, H2.out, by decide⟩
  · rw [if_neg h42] at hr
    have HB42 := Lib.hid h42
    clear h42
    by_cases h91 : b.getD s 0 = 91
    · rw [if_pos h91] at hr
      have HB := Lib.hid h91
      have hsl := getD_lt (b := b) (k := s) (by rw [h91]; decide)
      rw [E.len] at hsl
      cases f with
      | zero =>
        rw [if_pos (show ((0 : Nat) == 0) = true from rfl)] at hr
        subst hr
        have hd64 : 64 ≤ d := by omega
        clear E hl h IH hf h91
        go_enter Tryz.func35, Tryz.ntmps35
        go_wp2_with fail
        refine (begins_any HE.out HH.out 42 (by decide) false (beq_eq_false_iff_ne.2 HB42.out)).mono ?_
        rintro e w1 ⟨rfl, m1, rfl⟩
        have H1 := Lib.hid (HH.out.draws m1)
        generalize W.drewN m1 = W1 at *
        clear HH
        go_wp2_with fail
        refine (begins_any HE.out H1.out 91 (by decide) true (beq_iff_eq.2 HB.out)).mono ?_
        rintro e w1 ⟨rfl, m2, rfl⟩
        have H2 := Lib.hid (H1.out.draws m2)
        generalize W1.drewN m2 = W2 at *
        clear H1
        go_wp2_with fail
        refine (coll_deep H2.out l 2 d 93 hd64 _).mono ?_
        rintro e w3 ⟨rfl, hb3⟩
        have H3 := Lib.hid hb3
        clear hb3
        go_wp2_with fail
        go_ret
        exact ⟨rfl, H3.out, by decide⟩
      | succ f =>
        rw [if_neg (by simp)] at hr
        have HR := Lib.hid hr
        have hd64 : d < 64 := by omega
        have hC := item_at E (IH f rfl) (d + 1) (by omega) (by omega) (by omega)
        have HC := Lib.hid hC
        clear E hl h IH hf h91 hr hC
        go_enter Tryz.func35, Tryz.ntmps35
        go_wp2_with fail
        refine (begins_any HE.out HH.out 42 (by decide) false (beq_eq_false_iff_ne.2 HB42.out)).mono ?_
        rintro e w1 ⟨rfl, m1, rfl⟩
        have H1 := Lib.hid (HH.out.draws m1)
        generalize W.drewN m1 = W1 at *
        clear HH
        go_wp2_with fail
        refine (begins_any HE.out H1.out 91 (by decide) true (beq_iff_eq.2 HB.out)).mono ?_
        rintro e w1 ⟨rfl, m2, rfl⟩
        have H2 := Lib.hid (H1.out.draws m2)
        generalize W1.drewN m2 = W2 at *
        clear H1
        go_wp2_with fail
        refine (coll_item HE.out (inItem (inNode f b true)) (item_size (node_size b f true)) (item_kl _ b (node_size b f true)) d hd0 hd64 HC.out HL.out H2.out hn 2 93 (by decide) (by decide) hsl).mono ?_
        intro e w3 h3
        obtain ⟨rc, hrc⟩ : ∃ rc, inColl (inItem (inNode f b true)) b 93 s (l + 1) = rc := ⟨_, rfl⟩
        have hr := HR.out
        simp only [inChild] at hr
        rw [hrc] at h3 hr
        clear hrc
        cases rc with
        | error q =>
          obtain ⟨rfl, hb3, hq0⟩ := h3
          have H3 := Lib.hid (And.intro hb3 hq0)
          have HRR := Lib.hid hr
          clear hb3 hq0 hr
          go_wp2_with fail
          go_ret
          rw [← HRR.out]
          exact ⟨rfl, H3.out.1, H3.out.2⟩
        | ok y =>
          obtain ⟨ks, nl, m⟩ := y
          obtain ⟨rfl, v3, k3, Q, h3, hq⟩ := h3
          have H3 := Lib.hid (And.intro h3 hq)
          have HRR := Lib.hid hr
          clear h3 hq hr
          go_wp2_with fail
          go_ret
          rw [← HRR.out]
          exact ⟨rfl, v3, k3, Q, H3.out.1, H3.out.2⟩
    · rw [if_neg h91] at hr
      have HB91 := Lib.hid h91
      clear h91
      by_cases h123 : b.getD s 0 = 123
      · rw [if_pos h123] at hr
        have HB := Lib.hid h123
        have hsl := getD_lt (b := b) (k := s) (by rw [h123]; decide)
        rw [E.len] at hsl
        cases f with
        | zero =>
          rw [if_pos (show ((0 : Nat) == 0) = true from rfl)] at hr
          subst hr
          have hd64 : 64 ≤ d := by omega
          clear E hl h IH hf h123
          go_enter Tryz.func35, Tryz.ntmps35
          go_wp2_with fail
          refine (begins_any HE.out HH.out 42 (by decide) false (beq_eq_false_iff_ne.2 HB42.out)).mono ?_
          rintro e w1 ⟨rfl, m1, rfl⟩
          have H1 := Lib.hid (HH.out.draws m1)
          generalize W.drewN m1 = W1 at *
          clear HH
          go_wp2_with fail
          refine (begins_any HE.out H1.out 91 (by decide) false (beq_eq_false_iff_ne.2 HB91.out)).mono ?_
          rintro e w1 ⟨rfl, m2, rfl⟩
          have H2 := Lib.hid (H1.out.draws m2)
          generalize W1.drewN m2 = W2 at *
          clear H1
          go_wp2_with fail
          refine (begins_any HE.out H2.out 123 (by decide) true (beq_iff_eq.2 HB.out)).mono ?_
          rintro e w1 ⟨rfl, m3, rfl⟩
          have H3 := Lib.hid (H2.out.draws m3)
          generalize W2.drewN m3 = W3 at *
          clear H2
          go_wp2_with fail
          refine (coll_deep H3.out l 3 d 125 hd64 _).mono ?_
          rintro e w3 ⟨rfl, hb3⟩
          have H4 := Lib.hid hb3
          clear hb3
          go_wp2_with fail
          go_ret
          exact ⟨rfl, H4.out, by decide⟩
        | succ f =>
          rw [if_neg (by simp)] at hr
          have HR := Lib.hid hr
          have hd64 : d < 64 := by omega
          have hC := pair_at E (IH f rfl) (d + 1) (by omega) (by omega) (by omega)
          have HC := Lib.hid hC
          clear E hl h IH hf h123 hr hC
          go_enter Tryz.func35, Tryz.ntmps35
          go_wp2_with fail
          refine (begins_any HE.out HH.out 42 (by decide) false (beq_eq_false_iff_ne.2 HB42.out)).mono ?_
          rintro e w1 ⟨rfl, m1, rfl⟩
          have H1 := Lib.hid (HH.out.draws m1)
          generalize W.drewN m1 = W1 at *
          clear HH
          go_wp2_with fail
          refine (begins_any HE.out H1.out 91 (by decide) false (beq_eq_false_iff_ne.2 HB91.out)).mono ?_
          rintro e w1 ⟨rfl, m2, rfl⟩
          have H2 := Lib.hid (H1.out.draws m2)
          generalize W1.drewN m2 = W2 at *
          clear H1
          go_wp2_with fail
          refine (begins_any HE.out H2.out 123 (by decide) true (beq_iff_eq.2 HB.out)).mono ?_
          rintro e w1 ⟨rfl, m3, rfl⟩
          have H3 := Lib.hid (H2.out.draws m3)
          generalize W2.drewN m3 = W3 at *
          clear H2
          go_wp2_with fail
          refine (coll_pair HE.out (inPair (inNode f b true) b) (pair_size (node_size b f true)) (pair_kl _ b (node_size b f true)) d hd0 hd64 HC.out HL.out H3.out hn 3 125 (by decide) (by decide) hsl).mono ?_
          intro e w3 h3
          obtain ⟨rc, hrc⟩ : ∃ rc, inColl (inPair (inNode f b true) b) b 125 s (l + 1) = rc := ⟨_, rfl⟩
          have hr := HR.out
          simp only [inChild] at hr
          rw [hrc] at h3 hr
          clear hrc
          cases rc with
          | error q =>
            obtain ⟨rfl, hb3, hq0⟩ := h3
            have H4 := Lib.hid (And.intro hb3 hq0)
            have HRR := Lib.hid hr
            clear hb3 hq0 hr
            go_wp2_with fail
            go_ret
            rw [← HRR.out]
            exact ⟨rfl, H4.out.1, H4.out.2⟩
          | ok y =>
            obtain ⟨ks, nl, m⟩ := y
            obtain ⟨rfl, v3, k3, Q, h3, hq⟩ := h3
            have H4 := Lib.hid (And.intro h3 hq)
            have HRR := Lib.hid hr
            clear h3 hq hr
            go_wp2_with fail
            go_ret
            rw [← HRR.out]
            exact ⟨rfl, v3, k3, Q, H4.out.1, H4.out.2⟩
      · rw [if_neg h123] at hr
        have HB123 := Lib.hid h123
        have HR := Lib.hid hr
        clear E hl h IH hf hr h123
        go_enter Tryz.func35, Tryz.ntmps35
        go_wp2_with fail
        refine (begins_any HE.out HH.out 42 (by decide) false (beq_eq_false_iff_ne.2 HB42.out)).mono ?_
        rintro e w1 ⟨rfl, m1, rfl⟩
        have H1 := Lib.hid (HH.out.draws m1)
        generalize W.drewN m1 = W1 at *
        clear HH
        go_wp2_with fail
        refine (begins_any HE.out H1.out 91 (by decide) false (beq_eq_false_iff_ne.2 HB91.out)).mono ?_
        rintro e w1 ⟨rfl, m2, rfl⟩
        have H2 := Lib.hid (H1.out.draws m2)
        generalize W1.drewN m2 = W2 at *
        clear H1
        go_wp2_with fail
        refine (begins_any HE.out H2.out 123 (by decide) false (beq_eq_false_iff_ne.2 HB123.out)).mono ?_
        rintro e w1 ⟨rfl, m3, rfl⟩
        have H3 := Lib.hid (H2.out.draws m3)
        generalize W2.drewN m3 = W3 at *
        clear H2
        go_wp2_with fail
        refine (scalar_at HE.out H3.out (last_at HL.out) fl).mono ?_
        intro e w4 h4
        obtain ⟨o, ho⟩ : ∃ o, inLeaf b fl s = o := ⟨_, rfl⟩
        have hr := HR.out
        rw [ho] at h4 hr
        clear ho
        cases o with
        | none =>
          obtain ⟨rfl, hb4⟩ := h4
          have H4 := Lib.hid hb4
          have HRR := Lib.hid hr
          clear hb4 hr
          go_wp2_with fail
          go_ret
          rw [← HRR.out]
          exact ⟨rfl, H4.out, by decide⟩
        | some y =>
          obtain ⟨kd, st, vl, m⟩ := y
          obtain ⟨rfl, v4, h4⟩ := h4
          rw [last_set HL.out] at h4
          have H4 := Lib.hid h4
          have HRR := Lib.hid hr
          clear h4 hr
          go_wp2_with fail
          go_ret
          rw [← HRR.out]
          exact ⟨rfl, v4, _, [], H4.out, rfl⟩
theorem cont_byte {b : List Int} (hb : Byte b) {child : Nat → Nat → InR} {deep fl : Bool} {s base : Nat} {x : Nd} {l : List Nd} {m : Nat} (h : inCont child deep b fl s base = .ok (x, l, m)) : Byte x.value ∧ x.value.length ≤ 4 * b.length := by
  unfold inCont at h
  split at h
  · split at h
    · simp only [Except.ok.injEq, Prod.mk.injEq] at h
      obtain ⟨rfl, _, _⟩ := h
      show Byte (Pr.aliasF (b.drop s)).1 ∧ (Pr.aliasF (b.drop s)).1.length ≤ 4 * b.length
      unfold Pr.aliasF
      split
      · rename_i hc
        simp only [Bool.and_eq_true] at hc
        rw [Pr.cut_drop _ _ hc.1]
        refine ⟨((hb.drop s).drop 1).take _, ?_⟩
        rw [List.length_take, List.length_drop, List.length_drop]; omega
      · exact ⟨fun z hz => (by cases hz), by simp⟩
    · cases h
  · have nilv : Byte ([] : List Int) ∧ ([] : List Int).length ≤ 4 * b.length := ⟨fun z hz => (by cases hz), by simp⟩
    split at h
    · split at h
      · cases h
      · cases hc : inColl (inItem child) b 93 s base with
        | error e => rw [hc] at h; cases h
        | ok y =>
          obtain ⟨ks, l', n'⟩ := y
          rw [hc] at h
          simp only [Except.ok.injEq, Prod.mk.injEq] at h
          obtain ⟨rfl, _, _⟩ := h
          exact nilv
    · split at h
      · split at h
        · cases h
        · cases hc : inColl (inPair child b) b 125 s base with
          | error e => rw [hc] at h; cases h
          | ok y =>
            obtain ⟨ks, l', n'⟩ := y
            rw [hc] at h
            simp only [Except.ok.injEq, Prod.mk.injEq] at h
            obtain ⟨rfl, _, _⟩ := h
            exact nilv
      · cases hl : inLeaf b fl s with
        | none => rw [hl] at h; cases h
        | some y =>
          obtain ⟨k, st, v, n⟩ := y
          rw [hl] at h
          simp only [Except.ok.injEq, Prod.mk.injEq] at h
          obtain ⟨rfl, _, _⟩ := h
          exact leaf_byte hb hl
theorem Rd.weak {w : World} {F : Fr} {R : Nat} {A : Option Addr} {n c : Nat} {W : World} {s : Nat} {v : Value} {P : List NK} {q : Nat × Obj} (h : Rd w (q :: F) R A n c W s v P) : Rd w F R A n c W s v P := ⟨h.st, h.bel, h.hs, fun x hx => h.fr x (List.mem_cons_of_mem _ hx)⟩
theorem set_mid {P0 Q : List NK} {y z : NK} {l : Nat} (hl : P0.length = l) : (P0 ++ y :: Q).set l z = P0 ++ z :: Q := by
  subst hl
  rw [List.set_append_right _ _ (Nat.le_refl _), Nat.sub_self]; rfl
/-- The box of a node's props. -/
def PropsIs (W : World) (bx : Nat) (t a : ByteArray) : Prop := W.heap[bx]? = some (.cells #[.string t, .string a] 70)
theorem PropsIs.below {W W' : World} {bx : Nat} {t a : ByteArray} (h : PropsIs W bx t a) (hb : Below W.heap.size W W') : PropsIs W' bx t a := (hb.block bx (Array.getElem?_eq_some_iff.1 h).1).trans h
theorem PropsIs.set {W : World} {bx : Nat} {t a t' a' : ByteArray} (h : PropsIs W bx t a) : PropsIs ((W.setCell ⟨bx, 0, none⟩ (.string t')).setCell ⟨bx, 1, none⟩ (.string a')) bx t' a' := by
  unfold PropsIs at h ⊢; simp [World.setCell, Array.getElem?_modify, h]
theorem PropsIs.c0 {W : World} {bx : Nat} {t a : ByteArray} (h : PropsIs W bx t a) : W.cell? ⟨bx, 0, none⟩ = some (.string t) := by unfold PropsIs at h; simp [World.cell?, h]
theorem PropsIs.c1 {W : World} {bx : Nat} {t a : ByteArray} (h : PropsIs W bx t a) : W.cell? ⟨bx, 1, none⟩ = some (.string a) := by unfold PropsIs at h; simp [World.cell?, h]
set_option maxHeartbeats 4000000 in
theorem node_of {w : World} {F : Fr} {R : Nat} {A : Option Addr} {n c : Nat} {b : List Int} {f : Nat} (E : Env w A n c b) (IH : ∀ f', f = f' + 1 → ∀ F, NodeC w F R A n c b f') : NodeC w F R A n c b f := by
  intro W s v P fl d h hn hd0 hd1 hf
  rw [inNode_g]
  obtain ⟨r, hr⟩ : ∃ r, inNodeG (inChild f b) (f == 0) b fl s P.length = r := ⟨_, rfl⟩
  rw [hr]
  obtain ⟨l, hl⟩ : ∃ l, P.length = l := ⟨_, rfl⟩
  rw [hl] at hn hr
  have hs := h.hs
  have hsm := E.small
  have hnc := E.le
  have hcm := E.cap
  obtain ⟨A', hsl, hA', hrd⟩ := slice_l A n c s b E.len hnc E.nil hs
  have HRD := Lib.hid hrd
  have HA' := Lib.hid hA'
  have hll : (b.drop s).length = n - s := by rw [List.length_drop, E.len]
  have HLL := Lib.hid hll
  have hpl := takeP_len (b.drop s)
  rw [hll] at hpl
  obtain ⟨tg, an, m, ok, hq⟩ : ∃ tg an m ok, Pr.takeP (b.drop s) = (tg, an, m, ok) := ⟨_, _, _, _, rfl⟩
  unfold inNodeG at hr
  rw [hq] at hpl hr
  simp only [] at hpl hr
  have HE := Lib.hid E
  have HL := Lib.hid hl
  have HH := Lib.hid h
  have HQ := Lib.hid hq
  have HR := Lib.hid hr
  have HC := Lib.hid (fun (G : Fr) (W : World) (s' : Nat) (v : Value) (hh : Rd w G R A n c W s' v (P ++ [nilK])) (hle : l ≤ s' + 1) => content_at E (fun f' hf' => IH f' hf' G) d hd0 hd1 hf hl hh hle fl)
  have c0 := h.st.c0
  have c1 := h.st.c1
  have hcall := fun V (hV : Below W.heap.size W V) => Pr.take_any A' (n - s) (c - s) (b.drop s) V hll (by omega) (by omega) hA' (E.byte.drop s) (hrd _ ((h.below hV).rdb E))
  have HCALL : Hid (∀ V, Below W.heap.size W V → Calls Tryz.prog 32 #[.slice A' (n - s) (c - s)] V fun e w' => ∃ t a : ByteArray, byt t = tg ∧ byt a = an ∧ e = .returned (.tuple #[.agg #[.string t, .string a], .int .i64 (m : Int), .bool ok]) ∧ Below V.heap.size V w') := fun V hV => by
    have := hcall V hV
    unfold Pr.TakeP at this
    rw [hq] at this
    exact this
  have KEEP : Hid (∀ V, Below W.heap.size W V → V.cell? ⟨R, 0, none⟩ = some (.slice A n c) ∧ V.cell? ⟨R, 1, none⟩ = some (.int .i64 (s : Int))) := fun V hV => ⟨(h.below hV).st.c0, (h.below hV).st.c1⟩
  clear E h IH hf hl hr hq hrd hA' hll hcall
  go_enter Tryz.func21, Tryz.ntmps21
  go_upto_region 1 with fail
  go_cut [7, 8, 9] (fun p q r W1 => ∃ (bx : Nat) (t a : ByteArray), p = .pointer (some ⟨bx, 0, none⟩) ∧ q = .int .i64 (m : Int) ∧ r = .bool ok ∧ Hid (Below W.heap.size W W1 ∧ W.heap.size ≤ bx ∧ PropsIs W1 bx t a ∧ byt t = tg ∧ byt a = an))
  case first =>
    go_region_held3 (fun V => V.cell? ⟨R, 0, none⟩ = some (.slice A n c) ∧ V.cell? ⟨R, 1, none⟩ = some (.int .i64 (s : Int)))
      (first
        | exact KEEP.out _ (Below.refl _ _)
        | exact KEEP.out _ (Below.refl _ _).drew
        | exact KEEP.out _ ((Below.refl _ _).drew.alloc (Nat.le_refl _) _)
        | exact KEEP.out _ (((Below.refl _ _).alloc (Nat.le_refl _) _).drew)
        | exact KEEP.out _ HQ1.out
        | exact KEEP.out _ (HQ1.out.alloc HQ1.out.size _)
        | exact KEEP.out _ ((HQ1.out.setCell (p := ⟨W.heap.size, 0, none⟩) (Nat.le_refl _) _).setCell (p := ⟨W.heap.size, 1, none⟩) (Nat.le_refl _) _))
      (first
        | (go_at_call 32; refine (HCALL.out W.drew (Below.refl _ _).drew).mono ?_; rintro e W1 ⟨t, a, ht, ha, rfl, hb⟩; have HQ1 := Lib.hid (below_step ((Below.refl _ _).drew) hb); have HTA := Lib.hid (And.intro ht ha); clear hb ht ha)
        | (go_at_call 32; refine (HCALL.out (W.alloc (.cells #[.string ⟨#[]⟩, .string ⟨#[]⟩] 70)).drew ((Below.refl _ _).alloc (Nat.le_refl _) _).drew).mono ?_; rintro e W1 ⟨t, a, ht, ha, rfl, hb⟩; have HQ1 := Lib.hid (below_step (((Below.refl _ _).alloc (Nat.le_refl _) _).drew) hb); have hnw : PropsIs W1 W.heap.size ⟨#[]⟩ ⟨#[]⟩ := (hb.block W.heap.size (by simp)).trans (heap_alloc_new W _); have q0 : W1.frozen? ⟨W.heap.size, 0, none⟩ = false := (by unfold PropsIs at hnw; simp [World.frozen?, hnw]); have q1 : W1.frozen? ⟨W.heap.size, 1, none⟩ = false := (by unfold PropsIs at hnw; simp [World.frozen?, hnw]); have r0 := hnw.c0; have r1 := hnw.c1; have HTA := Lib.hid (And.intro ht ha); have HN := Lib.hid hnw; clear hb ht ha hnw))
    all_goals
      go_wp2_with fail
      go_meet
      first
        | exact ⟨W1.heap.size, t, a, rfl, rfl, rfl, HQ1.out.alloc HQ1.out.size _, HQ1.out.size, heap_alloc_new _ _, HTA.out.1, HTA.out.2⟩
        | exact ⟨W.heap.size, t, a, rfl, rfl, rfl, (HQ1.out.setCell (p := ⟨W.heap.size, 0, none⟩) (Nat.le_refl _) _).setCell (p := ⟨W.heap.size, 1, none⟩) (Nat.le_refl _) _, Nat.le_refl _, HN.out.set, HTA.out.1, HTA.out.2⟩
  case rest =>
    obtain ⟨bx, t, a, rfl, rfl, rfl, HX⟩ := hcut
    obtain ⟨W1, hW1⟩ : ∃ x, x = wc := ⟨_, rfl⟩
    subst hW1
    have h1 := HH.out.below HX.out.1
    have hlt := HH.out.st.lt
    have hG : ∀ q ∈ ((bx, Obj.cells #[.string t, .string a] 70) :: F : Fr), W1.heap[q.1]? = some q.2 ∧ q.1 ≠ R ∧ v.ownBlock ≠ some q.1 ∧ ∀ (i : Nat) (p : NK), P[i]? = some p → p.2.ownBlock ≠ some q.1 := by
      intro q hq
      rcases List.mem_cons.1 hq with rfl | hq
      · refine ⟨HX.out.2.2.1, ?_, ?_, ?_⟩
        · have := HX.out.2.1; show bx ≠ R; omega
        · intro e; have := (HH.out.st.nds.blockB e).2; have := HX.out.2.1; simp only [] at *; omega
        · intro i p hp e; have := (HH.out.st.nds.kidB hp e).2; have := HX.out.2.1; simp only [] at *; omega
      · exact h1.fr q hq
    have HG : Hid (Rd w ((bx, Obj.cells #[.string t, .string a] 70) :: F) R A n c W1 s v P) := ⟨h1.st, h1.bel, h1.hs, hG⟩
    clear c0 c1 KEEP HCALL hsl h1 hG hlt
    cases ok with
    | false =>
      have hrr : r = .error 2 := HR.out.symm
      have HRR := Lib.hid hrr
      clear hrr
      go_wp2_with fail
      go_ret
      rw [HRR.out]
      exact ⟨rfl, HG.out.bel, by decide⟩
    | true =>
      obtain ⟨s2, hs2⟩ : ∃ s2, inBlk b (s + m) = s2 := ⟨_, rfl⟩
      have hrr := HR.out
      rw [if_pos rfl, hs2] at hrr
      have HS2 := Lib.hid hs2
      have HRR := Lib.hid hrr
      have hs2ge := blk_ge b (s + m)
      rw [hs2] at hs2ge
      have r1 := HG.out.st.c1
      clear hrr hs2 HR
      go_wp2_with fail
      go_quiet (fail)
      have h2 := HG.out.draws nq
      generalize W1.drewN nq = W2 at *
      have z1 := h2.st.z 1
      have k1 := h2.st.c1
      have h3 := h2.move (s + m) (by omega)
      rw [show ((s + m : Nat) : Int) = (s : Int) + (m : Int) by omega] at h3
      have H3 := Lib.hid h3
      clear h2 h3 HG r1
      go_wp2_with fail
      refine (blanks_at HE.out H3.out s2 HS2.out).mono ?_
      rintro e w4 ⟨rfl, h4⟩
      have q1 := h4.st.c1
      have hs2n := h4.hs
      have H4 := Lib.hid h4
      clear h4 H3 z1 k1
      go_upto_if 49 with fail
      go_cut [12] (fun p W5 => p = .int .i64 ((if m = 0 then s2 else s : Nat) : Int) ∧ W5 = w4)
      case first =>
        by_cases hm0 : m = 0
        · have e0 : ((m : Int) == 0) = true := beq_iff_eq.2 (by omega)
          have HM0 := Lib.hid hm0
          clear hm0
          go_wp2_with fail
          go_meet
          exact ⟨by rw [if_pos HM0.out], rfl⟩
        · have e0 : ((m : Int) == 0) = false := beq_eq_false_iff_ne.2 (by omega)
          have HM0 := Lib.hid hm0
          clear hm0
          go_wp2_with fail
          go_meet
          exact ⟨by rw [if_neg HM0.out], rfl⟩
      case rest =>
        obtain ⟨rfl, hw5⟩ := hcut
        obtain ⟨W5, hW5⟩ : ∃ x, x = wc := ⟨_, rfl⟩
        have h5 : Rd w ((bx, Obj.cells #[.string t, .string a] 70) :: F) R A n c W5 s2 v P := by rw [hW5, hw5]; exact H4.out
        subst hW5
        have H5 := Lib.hid h5
        obtain ⟨st, hst⟩ : ∃ st : Nat, (if m = 0 then s2 else s) = st := ⟨_, rfl⟩
        rw [hst]
        have HST := Lib.hid hst
        clear h5 hw5 H4 q1 hst
        go_wp2_with fail
        refine (add_at H5.out (by rw [HL.out]; omega)).mono ?_
        rintro e w6 ⟨rfl, v6, h6⟩
        rw [HL.out]
        have H6 := Lib.hid h6
        clear h6 H5
        go_wp2_with fail
        obtain ⟨rc, hrc⟩ : ∃ rc, inCont (inChild f b) (f == 0) b fl s2 (l + 1) = rc := ⟨_, rfl⟩
        have hcc := HC.out _ w6 s2 v6 H6.out (by omega)
        have hrr := HRR.out
        rw [hrc] at hcc hrr
        have HRC := Lib.hid hrc
        refine hcc.mono ?_
        clear hcc hrc
        intro e w7 h7
        cases rc with
        | error q =>
          obtain ⟨rfl, hb7, hq0⟩ := h7
          have hne : (q != 0) = true := bne_iff_ne.2 hq0
          have H7 := Lib.hid (And.intro hb7 hq0)
          have HRS : Hid (r = .error q) := hrr.symm
          clear hb7 hq0 hrr
          go_wp2_with fail
          go_ret
          rw [HRS.out]
          exact ⟨rfl, H7.out.1, H7.out.2⟩
        | ok y =>
          obtain ⟨x, nl, m2⟩ := y
          obtain ⟨rfl, v7, k7, Q, h7, hq7⟩ := h7
          have hbv := cont_byte HE.out.byte HRC.out
          rw [HE.out.len] at hbv
          have hbox : PropsIs w7 bx t a := (h7.fr (bx, _) (List.mem_cons_self ..)).1
          have b0 := hbox.c0
          have b1 := hbox.c1
          have hp7 : (P ++ (x, k7) :: Q)[l]? = some (x, k7) := (coll_lists (Q2 := []) (z := nilK) HL.out).1
          obtain ⟨g, cap, rfl, hg1, hg2, hg3, hg4⟩ := h7.form (by rw [List.length_append, List.length_cons]; omega)
          obtain ⟨l7, hl7⟩ : ∃ l7, (P ++ (x, k7) :: Q).length = l7 := ⟨_, rfl⟩
          have hll7 : (l : Int) < (l7 : Int) := by rw [← hl7, List.length_append, List.length_cons, HL.out]; omega
          rw [hl7] at h7 hg1
          have y0 := h7.cell hl7 hp7 0 _ rfl
          rw [Nat.add_zero] at y0
          have k1 := h7.st.c1
          have k2 := h7.st.c2
          have z1 := h7.st.z 1
          have hRb : R ≠ bx := fun e => (h7.fr (bx, _) (List.mem_cons_self ..)).2.1 e.symm
          have H7 := Lib.hid h7
          have HP7 := Lib.hid hp7
          have HQ7 := Lib.hid hq7
          have HBV := Lib.hid hbv
          have HRR2 := Lib.hid hrr
          obtain ⟨kd, hkd⟩ : ∃ kd, x.kind = kd := ⟨_, rfl⟩
          have HKD := Lib.hid hkd
          change w7.cell? ⟨g, l * 10, none⟩ = some (.int .i64 x.kind) at y0
          rw [hkd] at y0
          clear h7 hp7 hq7 hbv hrr hbox hl7 H6 hkd
          by_cases k4 : kd = 4
          · subst k4
            by_cases hm0 : 0 < m
            · have hmi : (0 : Int) < (m : Int) := by omega
              have HRS : Hid (r = .error 2) := by
                show r = _
                rw [← HRR2.out]; exact if_pos ⟨HKD.out, hm0⟩
              clear hm0
              go_wp2_with fail
              go_ret
              rw [HRS.out]
              exact ⟨rfl, H7.out.bel, by decide⟩
            · have hmi : ¬ (0 : Int) < (m : Int) := by omega
              have HRS : Hid (r = .ok (inFin x tg an st m2 :: nl, m2)) := by
                show r = _
                rw [← HRR2.out, ← HST.out]
                show (if _ then _ else _) = _
                rw [if_neg (by rintro ⟨_, h⟩; exact hm0 h), if_neg (by rw [HKD.out]; decide)]
              clear hm0
              go_wp2_with fail
              refine (finish_at H7.out HP7.out st t a HBV.out.1 (by have := HBV.out.2; omega)).mono ?_
              rintro e w8 ⟨rfl, v8, h8⟩
              have H8 := Lib.hid h8
              clear h8
              go_wp2_with fail
              go_ret
              rw [HRS.out]
              refine ⟨rfl, v8, (fin x t a st m2, k7) :: Q, ?_, ?_⟩
              · have := H8.out
                rw [set_mid HL.out] at this
                exact this.weak
              · show fin x t a st m2 :: lst Q = _
                rw [HQ7.out]; unfold fin; rw [HX.out.2.2.2.1, HX.out.2.2.2.2]
          · have k4' : (kd == 4) = false := beq_eq_false_iff_ne.2 k4
            by_cases k0 : kd = 0
            · subst k0
              have HRS : Hid (r = .ok (inFin x tg an s (s + m) :: nl, s + m)) := by
                show r = _
                rw [← HRR2.out]
                show (if _ then _ else _) = _
                rw [if_neg (by rintro ⟨h, _⟩; rw [HKD.out] at h; cases h), if_pos HKD.out]
              have h7m := H7.out.move (s + m) (by omega)
              rw [show ((s + m : Nat) : Int) = (s : Int) + (m : Int) by omega] at h7m
              have b0' : (w7.setCell ⟨R, 1, none⟩ (.int .i64 ((s : Int) + (m : Int)))).cell? ⟨bx, 0, none⟩ = some (.string t) := by
                rw [World.cell?_setCell_other _ _ _ _ (by intro e; injection e with e; exact hRb e)]; exact b0
              have b1' : (w7.setCell ⟨R, 1, none⟩ (.int .i64 ((s : Int) + (m : Int)))).cell? ⟨bx, 1, none⟩ = some (.string a) := by
                rw [World.cell?_setCell_other _ _ _ _ (by intro e; injection e with e; exact hRb e)]; exact b1
              have H7M := Lib.hid h7m
              clear k4 k4' h7m H7
              have H7 := H7M
              clear H7M
              go_wp2_with fail
              refine (finish_at H7.out HP7.out s t a HBV.out.1 (by have := HBV.out.2; omega)).mono ?_
              rintro e w8 ⟨rfl, v8, h8⟩
              have H8 := Lib.hid h8
              clear h8
              go_wp2_with fail
              go_ret
              rw [HRS.out]
              refine ⟨rfl, v8, (fin x t a s (s + m), k7) :: Q, ?_, ?_⟩
              · have := H8.out
                rw [set_mid HL.out] at this
                exact this.weak
              · show fin x t a s (s + m) :: lst Q = _
                rw [HQ7.out]; unfold fin; rw [HX.out.2.2.2.1, HX.out.2.2.2.2]
            · have k0' : (kd == 0) = false := beq_eq_false_iff_ne.2 k0
              have HRS : Hid (r = .ok (inFin x tg an st m2 :: nl, m2)) := by
                show r = _
                rw [← HRR2.out, ← HST.out]
                show (if _ then _ else _) = _
                rw [if_neg (by rintro ⟨h, _⟩; rw [HKD.out] at h; exact k4 h), if_neg (by rw [HKD.out]; exact k0)]
              clear k4 k0
              go_wp2_with fail
              refine (finish_at H7.out HP7.out st t a HBV.out.1 (by have := HBV.out.2; omega)).mono ?_
              rintro e w8 ⟨rfl, v8, h8⟩
              have H8 := Lib.hid h8
              clear h8
              go_wp2_with fail
              go_ret
              rw [HRS.out]
              refine ⟨rfl, v8, (fin x t a st m2, k7) :: Q, ?_, ?_⟩
              · have := H8.out
                rw [set_mid HL.out] at this
                exact this.weak
              · show fin x t a st m2 :: lst Q = _
                rw [HQ7.out]; unfold fin; rw [HX.out.2.2.2.1, HX.out.2.2.2.2]
theorem node_at {w : World} {R : Nat} {A : Option Addr} {n c : Nat} {b : List Int} (E : Env w A n c b) : ∀ (f : Nat) (F : Fr), NodeC w F R A n c b f := by
  intro f
  induction f with
  | zero => intro F; exact node_of E (fun f' h => by cases h)
  | succ f ih => intro F; exact node_of E (fun f' h => by injection h with h; subst h; exact ih)
/-- A list of nodes in memory of the call's own. -/
def ListP (W : World) (v : Value) (l : List Nd) : Prop := ∃ (B : Nat) (P : List NK), Nds B W v P ∧ lst P = l
theorem ListP.below {W W' : World} {v : Value} {l : List Nd} (h : ListP W v l) (hb : Below W.heap.size W W') : ListP W' v l := by
  obtain ⟨B, P, h1, h2⟩ := h
  exact ⟨B, P, h1.below hb, h2⟩
def TakP (w : World) (r : InR) (e : Ending) (W' : World) : Prop :=
  match r with
  | .error q => e = .returned (.tuple #[.slice none 0 0, .int .i64 0, .int .i64 q]) ∧ Below w.heap.size w W' ∧ q ≠ 0
  | .ok (l, m) => ∃ v, e = .returned (.tuple #[v, .int .i64 (m : Int), .int .i64 0]) ∧ ListP W' v l ∧ Below w.heap.size w W'
set_option maxHeartbeats 2000000 in
theorem takeN_at {W : World} {A : Option Addr} {n c : Nat} {b : List Int} (E : Env W A n c b) (fl : Bool) (d : Int) (hd0 : 0 ≤ d) (hd1 : d ≤ 1000000) :
    Calls Tryz.prog 11 #[.slice A n c, .bool fl, .int .i64 d] W (TakP W (inNode (64 - d).toNat b fl 0 0)) := by
  have HC : ∀ W1, W.alloc (.cells #[.slice A n c, .int .i64 0, .slice none 0 0] 56) = W1 →
      Hid (Calls Tryz.prog 21 #[.pointer (some ⟨W.heap.size, 0, none⟩), .bool fl, .int .i64 d] W1 (NodeP W [] W.heap.size A n c [] (inNode (64 - d).toNat b fl 0 0))) := by
    intro W1 hW1
    have hblk : W1.heap[W.heap.size]? = some (.cells #[.slice A n c, .int .i64 0, .slice none 0 0] 56) := by rw [← hW1]; exact heap_alloc_new _ _
    have hb1 : Below W.heap.size W W1 := by rw [← hW1]; exact (Below.refl _ _).alloc (Nat.le_refl _) _
    have h1 : Rd W [] W.heap.size A n c W1 0 (.slice none 0 0) [] :=
      ⟨⟨hblk, Nat.le_refl _, Nds.nil _ _, (fun e => by cases e), fun i p hp => by simp at hp⟩, hb1, Nat.zero_le _, fun q hq => by cases hq⟩
    exact Lib.hid (node_at E (64 - d).toNat [] W1 0 _ [] fl d h1 (Nat.zero_le _) hd0 hd1 rfl)
  replace HC := HC _ rfl
  obtain ⟨r, hr⟩ : ∃ r, inNode (64 - d).toNat b fl 0 0 = r := ⟨_, rfl⟩
  rw [hr] at HC ⊢
  clear E hr
  go_enter Tryz.func11, Tryz.ntmps11
  go_wp2_with fail
  refine HC.out.mono ?_
  intro e w2 h2
  cases r with
  | error q =>
    obtain ⟨rfl, hb2, hq0⟩ := h2
    have hne : (q != 0) = true := bne_iff_ne.2 hq0
    have H2 := Lib.hid (And.intro hb2 hq0)
    clear hb2 hq0 HC
    go_wp2_with fail
    go_ret3
    exact ⟨rfl, H2.out.1, H2.out.2⟩
  | ok y =>
    obtain ⟨l, m⟩ := y
    obtain ⟨rfl, v2, Q, h2, hq⟩ := h2
    have c1 := h2.st.c1
    have c2 := h2.st.c2
    have H2 := Lib.hid (And.intro h2 hq)
    clear h2 hq HC
    go_wp2_with fail
    go_quiet (fail)
    go_wp2_with fail
    go_ret3
    have h3 := H2.out.1.draws nq
    exact ⟨v2, rfl, ⟨_, Q, h3.st.nds, H2.out.2⟩, h3.bel⟩
theorem ix_has10 (zs : List Int) (x : Int) : (ixC x zs != -1) = zs.contains x := by
  unfold ixC
  by_cases h : zs.findIdx (· == x) < zs.length
  · rw [if_pos h]
    have h1 : zs.contains x = true := by
      rw [List.contains_iff_mem]
      have := List.findIdx_getElem (w := h)
      rw [beq_iff_eq] at this
      rw [← this]; exact List.getElem_mem h
    rw [h1, bne_iff_ne]; omega
  · rw [if_neg h]
    have h1 : zs.contains x = false := by
      cases hc : zs.contains x
      · rfl
      · rw [List.contains_iff_mem] at hc
        exact absurd (List.findIdx_lt_length_of_exists ⟨x, hc, by simp⟩) h
    rw [h1]; rfl
theorem take3_pre (zs : List Int) (n : Nat) (hl : zs.length = n) : (decide (3 ≤ n) && zs.take 3 == [239, 187, 191]) = (zs.take 3 == [239, 187, 191]) := by
  by_cases h : 3 ≤ n
  · rw [decide_eq_true h, Bool.true_and]
  · rw [decide_eq_false h, Bool.false_and]
    symm
    apply beq_eq_false_iff_ne.2
    intro e
    have := congrArg List.length e
    rw [List.length_take] at this; simp at this; omega
set_option maxHeartbeats 1000000 in
theorem contains_one (A : Option Addr) (b off : Nat) (n c d : Nat) (zs : List Int) (x : Int) (w : World) (hl : zs.length = n) (hr : RdB w A zs) (hx : w.cell? ⟨b, off, none⟩ = some (.int .u8 x)) (hd : 1 ≤ d) (hd' : d ≤ 9223372036854775807) (hbz : Byte zs) (hbx : 0 ≤ x ∧ x < 256) (t : Bool) (ht : zs.contains x = t) :
    Calls Tryz.prog 20 #[.slice A n c, .slice (some ⟨b, off, none⟩) 1 d] w fun e w' => e = .returned (.bool t) ∧ w = w' := by
  have HI := Lib.hid (Pr.index_one A b off n c d zs x w hl hr hx hd hd' hbz hbx)
  have hix := ix_has10 zs x
  rw [ht] at hix
  obtain ⟨q, hq⟩ : ∃ q, ixC x zs = q := ⟨_, rfl⟩
  rw [hq] at HI hix
  clear hl hr hx hbz ht hq
  go_enter Tryz.func20, Tryz.ntmps20
  go_wp2_with fail
  refine HI.out.mono ?_
  rintro e w1 ⟨rfl, rfl⟩
  go_wp2_with fail
  go_ret
  exact ⟨rfl, rfl⟩
set_option maxHeartbeats 4000000 in
theorem line_at (A : Option Addr) (n c : Nat) (zs : List Int) (W : World) (hl : zs.length = n) (hnc : n ≤ c) (hm : c ≤ 9223372036854775807) (hb : Byte zs) (hr : RdB W A zs) (t : Bool) (ht : inText zs = t) :
    Calls Tryz.prog 10 #[.slice A n c] W fun e W' => e = .returned (.bool t) ∧ Below W.heap.size W W' := by
  have kc := fun (w : World) (C : Array Value) (n c : Nat) => Lib.run_convert_bytes_const (P := Tryz.prog) w 35 5 C n c Tryz.underlying35 Tryz.underlying5
  unfold inText at ht
  rcases hck : checkF zs with ⟨x, y⟩
  rw [hck] at ht
  have HC := Lib.hid (check_at A n c zs W hl hnc hm hb hr x y hck)
  have HL := Lib.hid hl
  have HB := Lib.hid hb
  have HR := Lib.hid hr
  simp only [] at ht
  by_cases hy : y = 0
  · subst hy
    have hb1 : Below W.heap.size W (W.alloc (.cells #[.int .u8 239, .int .u8 187, .int .u8 191] 5 (3, 4))) := (Below.refl _ _).alloc (Nat.le_refl _) _
    obtain ⟨W1, hW1⟩ : ∃ W1, W.alloc (.cells #[.int .u8 239, .int .u8 187, .int .u8 191] 5 (3, 4)) = W1 := ⟨_, rfl⟩
    have hrd3 : RdB W1 (some ⟨W.heap.size, 0, none⟩) [239, 187, 191] := by rw [← hW1]; exact RdB.new rfl three_at
    rw [hW1] at hb1
    obtain ⟨p, hp⟩ : ∃ p, (zs.take 3 == [239, 187, 191]) = p := ⟨_, rfl⟩
    have HP := Lib.hid (hasPrefix_any A (some ⟨W.heap.size, 0, none⟩) n c 3 3 zs [239, 187, 191] W1 hl rfl (by omega) hnc hm (hr.below hb1) hrd3 hb (by intro z hz; simp at hz; omega) p (by rw [take3_pre zs n hl, hp]))
    rw [hp] at ht
    have HB1 := Lib.hid hb1
    clear hck hl hb hr hb1 hrd3 hp
    cases p with
    | true =>
      obtain rfl : t = false := by rw [← ht]; rfl
      clear ht
      go_enter Tryz.func10, Tryz.ntmps10
      go_wp2_with fail
      refine HC.out.mono ?_
      rintro e w1 ⟨rfl, rfl⟩
      go_wp2_with fail
      refine HP.out.mono ?_
      rintro e w1 ⟨rfl, rfl⟩
      go_wp2_with fail
      go_ret
      exact ⟨rfl, HB1.out⟩
    | false =>
      obtain ⟨cn, hcn⟩ : ∃ cn, zs.contains 10 = cn := ⟨_, rfl⟩
      obtain rfl : t = !cn := by rw [← ht, ← hcn]; rfl
      clear ht
      have hb2 : Below W.heap.size W (W1.alloc (.cells #[.int .u8 10] 5 (1, 2))) := HB1.out.alloc HB1.out.size _
      obtain ⟨W2, hW2⟩ : ∃ W2, W1.alloc (.cells #[.int .u8 10] 5 (1, 2)) = W2 := ⟨_, rfl⟩
      rw [hW2] at hb2
      have hc10 : W2.cell? ⟨W1.heap.size, 0, none⟩ = some (.int .u8 10) := by rw [← hW2, World.cell?_alloc_mark]; rfl
      have HI := Lib.hid (contains_one A W1.heap.size 0 n c 1 zs 10 W2 HL.out (HR.out.below hb2) hc10 (by omega) (by omega) HB.out (by omega) cn hcn)
      have HB2 := Lib.hid hb2
      clear hb2 hc10 hcn
      go_enter Tryz.func10, Tryz.ntmps10
      go_wp2_with fail
      refine HC.out.mono ?_
      rintro e w1 ⟨rfl, rfl⟩
      go_wp2_with fail
      refine HP.out.mono ?_
      rintro e w1 ⟨rfl, rfl⟩
      go_wp2_with fail
      refine HI.out.mono ?_
      rintro e w1 ⟨rfl, rfl⟩
      go_wp2_with fail
      go_ret
      exact ⟨rfl, HB2.out⟩
  · obtain rfl : t = false := by rw [← ht, beq_eq_false_iff_ne.2 hy]; rfl
    have hy' : (y == 0) = false := beq_eq_false_iff_ne.2 hy
    clear ht hy hck hl hb hr kc
    go_enter Tryz.func10, Tryz.ntmps10
    go_wp2_with fail
    refine HC.out.mono ?_
    rintro e w1 ⟨rfl, rfl⟩
    go_wp2_with fail
    go_ret
    exact ⟨rfl, Below.refl _ _⟩
def ParP (w : World) (r : Except Int (List Nd)) (e : Ending) (W' : World) : Prop :=
  match r with
  | .error q => e = .returned (.tuple #[.slice none 0 0, .int .i64 q]) ∧ Below w.heap.size w W' ∧ q ≠ 0
  | .ok l => ∃ v, e = .returned (.tuple #[v, .int .i64 0]) ∧ ListP W' v l ∧ Below w.heap.size w W'
theorem chk_y (b : List Int) : (checkF b).2 = 0 → b.length ≤ 65536 := by
  intro h
  unfold checkF at h
  split at h
  · cases h
  · omega
set_option maxHeartbeats 4000000 in
theorem parse_at {w W : World} (hb : Below w.heap.size w W) (hS : Shorts w) (hM : MaxL w) (u : ByteArray) (hu : u.size ≤ 1000000) (fl : Bool) (r : Except Int (List Nd)) (hr : inParse (byt u) fl = r) :
    Calls Tryz.prog 6 #[.string u, .bool fl] W (ParP w r) := by
  obtain ⟨cap, W1, B⟩ := bytes_of u (by omega) W
  have hrun := B.run
  have hb1 := below_step hb B.below
  unfold inParse at hr
  obtain ⟨t, ht⟩ : ∃ t, inText (byt u) = t := ⟨_, rfl⟩
  rw [ht] at hr
  have HT := Lib.hid (line_at _ u.size cap (byt u) W1 (byt_len u) B.le B.max (byt_byte u) B.rd t ht)
  have HB1 := Lib.hid hb1
  have HBB := Lib.hid B
  have hle := B.le
  have hmx := B.max
  cases t with
  | false =>
    obtain rfl : r = .error 1 := by rw [← hr]; rfl
    clear hb hS hM hr ht hb1 B
    go_enter Tryz.func6, Tryz.ntmps6
    go_wp2_with fail
    refine HT.out.mono ?_
    rintro e w2 ⟨rfl, hb2⟩
    have HB2 := Lib.hid (below_step HB1.out hb2)
    clear hb2
    go_wp2_with fail
    go_ret2
    exact ⟨rfl, HB2.out, by decide⟩
  | true =>
    have hlen : u.size ≤ 65536 := by
      unfold inText at ht
      simp only [Bool.and_eq_true, beq_iff_eq] at ht
      have := chk_y (byt u) ht.1
      rwa [byt_len] at this
    rw [if_pos rfl] at hr
    have hE : ∀ W2, Below W1.heap.size W1 W2 → Env W2 (some ⟨W.heap.size, 0, none⟩) u.size cap (byt u) := fun W2 h2 =>
      ⟨byt_len u, hle, hmx, (fun h => by cases h), byt_byte u, HBB.out.rd.below h2, by omega, (hS.below hb1).below h2, (hM.below hb1).below h2⟩
    have HE := Lib.hid hE
    obtain ⟨rn, hrn⟩ : ∃ rn, inNode 64 (byt u) fl 0 0 = rn := ⟨_, rfl⟩
    rw [hrn] at hr
    have HRN := Lib.hid hrn
    have HR := Lib.hid hr
    clear hb hS hM hr ht hb1 B hE hrn
    go_enter Tryz.func6, Tryz.ntmps6
    go_wp2_with fail
    refine HT.out.mono ?_
    rintro e w2 ⟨rfl, hb2⟩
    have HB2 := Lib.hid hb2
    clear hb2
    go_wp2_with fail
    have hc := takeN_at (HE.out w2 HB2.out) fl 0 (by omega) (by omega)
    change Calls _ _ _ _ (TakP w2 (inNode 64 (byt u) fl 0 0)) at hc
    rw [HRN.out] at hc
    have HB02 := Lib.hid (below_step HB1.out HB2.out)
    refine hc.mono ?_
    clear hc
    intro e w3 h3
    cases rn with
    | error q =>
      obtain ⟨rfl, hb3, hq0⟩ := h3
      have hne : (q != 0) = true := bne_iff_ne.2 hq0
      have H3 := Lib.hid (And.intro (below_step HB02.out hb3) hq0)
      have HRR : Hid (r = .error q) := HR.out.symm
      clear hb3 hq0
      go_wp2_with fail
      go_ret2
      rw [HRR.out]
      exact ⟨rfl, H3.out.1, H3.out.2⟩
    | ok y =>
      obtain ⟨l, m⟩ := y
      obtain ⟨v, rfl, hl3, hb3⟩ := h3
      have H3 := Lib.hid (And.intro (below_step HB02.out hb3) hl3)
      have hrr := HR.out
      clear hb3 hl3
      by_cases hm0 : m = 0
      · have HRR : Hid (r = .error 2) := by show r = _; rw [← hrr]; exact if_pos (.inl hm0)
        have e0 : ((m : Int) == 0) = true := beq_iff_eq.2 (by omega)
        clear hm0 hrr
        go_wp2_with fail
        go_ret2
        rw [HRR.out]
        exact ⟨rfl, H3.out.1, by decide⟩
      · have e0 : ((m : Int) == 0) = false := beq_eq_false_iff_ne.2 (by omega)
        by_cases hmn : m < u.size
        · have HRR : Hid (r = .error 2) := by show r = _; rw [← hrr]; exact if_pos (.inr (by rw [byt_len]; exact hmn))
          have e1 : (m : Int) < (u.size : Int) := by omega
          clear hm0 hrr
          go_wp2_with fail
          go_ret2
          rw [HRR.out]
          exact ⟨rfl, H3.out.1, by decide⟩
        · have HRR : Hid (r = .ok l) := by show r = _; rw [← hrr]; exact if_neg (by rw [byt_len]; rintro (h | h); exact hm0 h; exact hmn h)
          have e1 : ¬ (m : Int) < (u.size : Int) := by omega
          clear hm0 hrr
          go_wp2_with fail
          go_ret2
          rw [HRR.out]
          exact ⟨v, rfl, H3.out.2, H3.out.1⟩
theorem ListP.look {W : World} {v : Value} {l : List Nd} (h : ListP W v l) (h0 : 0 < l.length) : ∃ g cap, v = .slice (some ⟨g, 0, none⟩) l.length cap ∧ l.length ≤ cap ∧ cap ≤ 9223372036854775807 ∧
    ∀ (i : Nat) (x : Nd) (j : Nat) (u : Value), l[i]? = some x → j < 9 → (ndC (x, .slice none 0 0))[j]? = some u → W.cell? ⟨g, i * 10 + j, none⟩ = some u := by
  obtain ⟨B, P, hn, rfl⟩ := h
  have hl : (lst P).length = P.length := by simp [lst]
  rw [hl] at h0 ⊢
  obtain ⟨g, cap, rfl, h1, h2, h3, h4⟩ := hn.form h0
  refine ⟨g, cap, rfl, h1, h2, ?_⟩
  intro i x j u hi hj hu
  have : ∃ p, P[i]? = some p ∧ p.1 = x := by
    simp only [lst, List.getElem?_map, Option.map_eq_some_iff] at hi
    exact hi
  obtain ⟨p, hp, rfl⟩ := this
  refine hn.cell hp j u ?_
  rw [← hu]
  match j, hj with
  | 0, _ => rfl
  | 1, _ => rfl
  | 2, _ => rfl
  | 3, _ => rfl
  | 4, _ => rfl
  | 5, _ => rfl
  | 6, _ => rfl
  | 7, _ => rfl
  | 8, _ => rfl
end Go.Proofs.YtnecapmnbaemiaaGreatDoor
