/- Maps of the call's own, told by functions: from texts to numbers, from numbers to numbers. · Chapter 14: check.Anchors, check.Targets, isAhead of any list. Written by tools/tree/ckanc.py. · Chapter 14: isAhead, check.Targets of any list. Written by tools/tree/ckanc2.py. · Sets of keys of a mapping (a tag and a text) of the call's own, told by functions. · Chapter 14: which keys are there already: markRepeated. · Chapter 14: which keys are there already: repeatedKeys. Written by tools/tree/ckrep2.py. · Chapter 14: check.Check of any list. Written by tools/check/ckchk.py. · Chapter 14: the numbers of the nodes' things: numbered. Written by tools/check/cknum.py. · Chapter 14: a node as a thing: thingKind, thing. · Chapter 14: check.Compose of any list. Written by tools/check/ckcmp.py. · Chapter 14: the law's example. -/
import Derived.Test.YtnecapmnbaemiaaGreatDoorMA
import Derived.Maps.OwnSet
import Derived.Maps.OwnOps
import Derived.StringKeys
import Derived.Test.YtnecapmnbaemiaaGreatDoorMJ
import Derived.Test.YtnecapmnbaemiaaGreatDoorMI
import Derived.DeepKeys4
set_option linter.unusedSimpArgs false
set_option linter.unusedVariables false
namespace Go.Proofs.YtnecapmnbaemiaaGreatDoor
open Go.RowKit Go.Maps
set_option linter.unusedVariables false
set_option linter.unusedSimpArgs false
set_option maxRecDepth 100000
theorem ckS : Keyed Tryz.prog 9 := string_keyed Tryz.underlying9
theorem ckI : Keyed Tryz.prog 3 := int_keyed Tryz.underlying3
theorem ckz (w : World) : (zeroValue 3).run Tryz.prog w = .ok (.int .i64 0) w := by kernel_rfl
def litS (s : ByteArray) : Lit := .string s.data.toList
theorem litS_inj {s t : ByteArray} (h : litS s = litS t) : s = t := by
  unfold litS at h
  injection h with h
  exact ByteArray.ext (Array.toList_inj.1 h)
/-- What a map answers at a key: f's number, or none. -/
def Ans (D : DataW Unit) (k : Lit) (o : Option Int) : Prop := has D k = o.isSome ∧ ∀ c, o = some c → ∀ zd, D.atKey k zd = .lit (.int .i64 c)
/-- The map in block B, with at most n entries, answers as f. -/
def MapS (W : World) (B n : Nat) (f : ByteArray → Option Int) : Prop :=
  ∃ D : DataW Unit, W.ownsMap Tryz.prog 9 (plainElem Tryz.prog 3) B n D ∧ ∀ s : ByteArray, Ans D (litS s) (f s)
def MapI (W : World) (B n : Nat) (f : Int → Option Int) : Prop :=
  ∃ D : DataW Unit, W.ownsMap Tryz.prog 3 (plainElem Tryz.prog 3) B n D ∧ ∀ k : Int, Ans D (.int .i64 k) (f k)
theorem ans_nil (k : Lit) : Ans (.map []) k none := ⟨rfl, fun c h => by cases h⟩
theorem mapS_new (w : World) : MapS (w.alloc (.map #[] 0)) w.heap.size 0 (fun _ => none) := ⟨.map [], World.ownsMap_made _ _ _ _, fun s => ans_nil _⟩
theorem mapI_new (w : World) : MapI (w.alloc (.map #[] 0)) w.heap.size 0 (fun _ => none) := ⟨.map [], World.ownsMap_made _ _ _ _, fun s => ans_nil _⟩
theorem grown_b {w w' : World} (h : Below w.heap.size w w') : w.grownBy w' none := ⟨h.os, h.tape, h.output, h.size, fun i hi _ => h.block i hi⟩
theorem MapS.below {W W' : World} {B n : Nat} {f : ByteArray → Option Int} (h : MapS W B n f) (hb : Below W.heap.size W W') : MapS W' B n f := by
  obtain ⟨D, h1, h2⟩ := h
  exact ⟨D, h1.kept (grown_b hb) (by simp), h2⟩
theorem MapI.below {W W' : World} {B n : Nat} {f : Int → Option Int} (h : MapI W B n f) (hb : Below W.heap.size W W') : MapI W' B n f := by
  obtain ⟨D, h1, h2⟩ := h
  exact ⟨D, h1.kept (grown_b hb) (by simp), h2⟩
theorem ans_look {D : DataW Unit} {k : Lit} {o : Option Int} (h : Ans D k o) : D.atKey k (.lit (.int .i64 0)) = .lit (.int .i64 (o.getD 0)) ∧ has D k = o.isSome := by
  refine ⟨?_, h.1⟩
  cases o with
  | none => exact atKey_of_not_has h.1 _
  | some c => exact h.2 c rfl _
theorem lit_of {v : Value} {c : Int} {ps : List MemPlace} (h : plainElem Tryz.prog 3 v = some ((.lit (.int .i64 c) : DataW Unit), ps)) : v = .int .i64 c := by
  obtain ⟨c', rfl, hc, _⟩ := plainElem_int_inv Tryz.underlying3 h
  simp only [Prod.mk.injEq] at hc
  obtain ⟨hc, _⟩ := hc
  injection hc with hc
  injection hc with _ hc
  rw [hc]
theorem mapS_look {W : World} {B n : Nat} {f : ByteArray → Option Int} (h : MapS W B n f) (s : ByteArray) (hs : s.size ≤ 1000000000) :
    (Instr.lookup 42 (.map (some B)) (.string s) true).run Tryz.prog W = .ok (.tuple #[.int .i64 ((f s).getD 0), .bool (f s).isSome]) W := by
  obtain ⟨D, hown, hD⟩ := h
  obtain ⟨v, ps, hrun, hv⟩ := hown.look_ok ckS Tryz.underlying42 (ckz W) (plainElem_int Tryz.underlying3 (by decide)) (WideMaps.keyOf_string_mk (s := s) Tryz.underlying9 (by unfold maxLen; omega))
  obtain ⟨e1, e2⟩ := ans_look (hD s)
  rw [show (Lit.string s.data.toList) = litS s from rfl] at hrun hv
  rw [e1] at hv
  rw [e2, lit_of hv] at hrun
  exact hrun
theorem mapS_put {W : World} {B n : Nat} {f : ByteArray → Option Int} (h : MapS W B n f) (s : ByteArray) (hs : s.size ≤ 1000000000) (c : Int) (hc : (Lit.int .i64 c).wf = true) (hn : n ≤ 1000000000) :
    ∃ W', (Instr.mapUpdate 42 (.map (some B)) (.string s) (.int .i64 c)).run Tryz.prog W = .ok () W' ∧ MapS W' B (n + 1) (fun t => if t = s then some c else f t) ∧ W.grownBy W' (some B) := by
  obtain ⟨D, hown, hD⟩ := h
  have hm := World.ownsMap.isMap hown
  obtain ⟨W', hrun, hown', hg⟩ := hown.update ckS Tryz.underlying42 (by unfold maxLen; omega) (WideMaps.keyOf_string_mk (s := s) Tryz.underlying9 (by unfold maxLen; omega)) (plainElem_int Tryz.underlying3 hc)
  have hk : WideAt.IsKeyLit (litS s) := ckS.key (WideMaps.keyOf_string_mk (s := s) Tryz.underlying9 (by unfold maxLen; omega))
  refine ⟨W', hrun, ⟨_, hown', fun t => ?_⟩, hg⟩
  dsimp only
  by_cases e : t = s
  · subst e
    rw [if_pos rfl]
    refine ⟨?_, fun c' h' zd => ?_⟩
    · exact has_put_same hm hk _
    · injection h' with h'
      subst h'
      exact atKey_put_same hm hk _ _
  · rw [if_neg e]
    have hne : litS t ≠ litS s := fun h => e (litS_inj h)
    refine ⟨?_, fun c' h' zd => ?_⟩
    · rw [show (Lit.string s.data.toList) = litS s from rfl, has_put_other hne]; exact (hD t).1
    · rw [show (Lit.string s.data.toList) = litS s from rfl, atKey_put_other hne]; exact (hD t).2 c' h' zd
theorem wf_small {k : Int} (h1 : -9223372036854775808 ≤ k) (h2 : k ≤ 9223372036854775807) : (Lit.int .i64 k).wf = true := by
  have e : (Lit.int .i64 k).wf = (decide (-9223372036854775808 ≤ k) && decide (k ≤ 9223372036854775807)) := rfl
  rw [e, decide_eq_true h1, decide_eq_true h2]
  rfl
theorem mapI_look {W : World} {B n : Nat} {f : Int → Option Int} (h : MapI W B n f) (k : Int) (hk : (Lit.int .i64 k).wf = true) (ok : Bool) :
    (Instr.lookup 60 (.map (some B)) (.int .i64 k) ok).run Tryz.prog W = .ok (if ok then .tuple #[.int .i64 ((f k).getD 0), .bool (f k).isSome] else .int .i64 ((f k).getD 0)) W := by
  obtain ⟨D, hown, hD⟩ := h
  obtain ⟨e1, e2⟩ := ans_look (hD k)
  cases ok with
  | true =>
    obtain ⟨v, ps, hrun, hv⟩ := hown.look_ok ckI Tryz.underlying60 (ckz W) (plainElem_int Tryz.underlying3 (by decide)) (keyOf_int_mk Tryz.underlying3 hk)
    rw [e1] at hv
    rw [e2, lit_of hv] at hrun
    exact hrun
  | false =>
    obtain ⟨v, ps, hrun, hv⟩ := hown.lookup ckI Tryz.underlying60 (ckz W) (plainElem_int Tryz.underlying3 (by decide)) (keyOf_int_mk Tryz.underlying3 hk)
    rw [e1] at hv
    rw [lit_of hv] at hrun
    exact hrun
theorem mapI_put {W : World} {B n : Nat} {f : Int → Option Int} (h : MapI W B n f) (k : Int) (hk : (Lit.int .i64 k).wf = true) (c : Int) (hc : (Lit.int .i64 c).wf = true) (hn : n ≤ 1000000000) :
    ∃ W', (Instr.mapUpdate 60 (.map (some B)) (.int .i64 k) (.int .i64 c)).run Tryz.prog W = .ok () W' ∧ MapI W' B (n + 1) (fun t => if t = k then some c else f t) ∧ W.grownBy W' (some B) := by
  obtain ⟨D, hown, hD⟩ := h
  have hm := World.ownsMap.isMap hown
  obtain ⟨W', hrun, hown', hg⟩ := hown.update ckI Tryz.underlying60 (by unfold maxLen; omega) (keyOf_int_mk Tryz.underlying3 hk) (plainElem_int Tryz.underlying3 hc)
  have hkk : WideAt.IsKeyLit (Lit.int .i64 k) := ckI.key (keyOf_int_mk Tryz.underlying3 hk)
  refine ⟨W', hrun, ⟨_, hown', fun t => ?_⟩, hg⟩
  dsimp only
  by_cases e : t = k
  · subst e
    rw [if_pos rfl]
    refine ⟨has_put_same hm hkk _, fun c' h' zd => ?_⟩
    injection h' with h'
    subst h'
    exact atKey_put_same hm hkk _ _
  · rw [if_neg e]
    have hne : Lit.int .i64 t ≠ Lit.int .i64 k := fun h => e (by injection h)
    refine ⟨?_, fun c' h' zd => ?_⟩
    · rw [has_put_other hne]; exact (hD t).1
    · rw [atKey_put_other hne]; exact (hD t).2 c' h' zd
open Go.RowKit
/-- Texts of a moderate size. -/
def TxG (l : List Gn) : Prop := ∀ x ∈ l, x.tag.size ≤ 1000000 ∧ x.anchor.size ≤ 1000000 ∧ x.value.size ≤ 1000000
/-- The first node with an anchor. -/
theorem gne_isEmpty {s : ByteArray} (h : ¬ s = ⟨#[]⟩) : s.toList.isEmpty = false := by
  rw [Bool.eq_false_iff]
  intro e
  rw [List.isEmpty_iff, Lib.toList_data] at e
  exact h (ByteArray.ext (Array.toList_inj.1 e))
def ancF (l : List Gn) (s : ByteArray) : Option Int := if s.size = 0 then none else (l.findIdx? fun x => decide (x.anchor = s)).map fun (i : Nat) => (i : Int)
theorem ancF_nil : ancF [] = fun _ => none := by funext s; unfold ancF; split <;> rfl
theorem ancF_snoc (l : List Gn) (x : Gn) (s : ByteArray) : ancF (l ++ [x]) s = if x.anchor = s ∧ s.size ≠ 0 ∧ ancF l s = none then some (l.length : Int) else ancF l s := by
  unfold ancF
  by_cases h0 : s.size = 0
  · rw [if_pos h0, if_pos h0, if_neg (by omega)]
  · rw [if_neg h0, if_neg h0, List.findIdx?_append]
    cases h : l.findIdx? fun x => decide (x.anchor = s) with
    | some i => simp
    | none =>
      by_cases hx : x.anchor = s
      · rw [if_pos ⟨hx, h0, rfl⟩]; simp [List.findIdx?_cons, hx]
      · rw [if_neg (fun h => hx h.1)]; simp [List.findIdx?_cons, hx]
theorem take_snoc {l : List Gn} {t : Nat} {x : Gn} (hx : l[t]? = some x) : l.take (t + 1) = l.take t ++ [x] := by
  rw [List.take_add_one, hx]; rfl
theorem empty_size {s : ByteArray} (h : s.size = 0) : s = ⟨#[]⟩ := ByteArray.ext (Array.eq_empty_of_size_eq_zero h)
theorem gne_size {s : ByteArray} (h : ¬ s = ⟨#[]⟩) : s.size ≠ 0 := fun e => h (empty_size e)
set_option maxHeartbeats 8000000 in
theorem anchors_at {W : World} {A : Option Addr} {n cap : Nat} {l : List Gn} (hL : GL W A n cap l) (hT : TxG l) (hn : n ≤ 1000000) :
    Calls Tryz.prog 12 #[.slice A n cap] W fun e w' => ∃ B m, e = .returned (.map (some B)) ∧ W.heap.size ≤ B ∧ m ≤ n ∧ MapS w' B m (ancF l) ∧ Below W.heap.size W w' := by
  have hle := hL.le
  have hmx := hL.max
  obtain ⟨W1, hW1⟩ : ∃ z, W.alloc (.map #[] 0) = z := ⟨_, rfl⟩
  obtain ⟨B, hB⟩ : ∃ z, W.heap.size = z := ⟨_, rfl⟩
  have hm0 : MapS W1 B 0 (fun _ => none) := by rw [← hW1, ← hB]; exact mapS_new W
  have hb1 : Below W.heap.size W W1 := by rw [← hW1]; exact (Below.refl _ _).alloc (Nat.le_refl _) _
  have HL := Lib.hid hL
  have HT := Lib.hid hT
  have H0 := Lib.hid (And.intro hm0 hb1)
  have HBB := Lib.hid hB
  clear hL hT hm0 hb1
  have hmm := @run_makeMap Tryz.prog
  go_enter Tryz.func12, Tryz.ntmps12
  go_upto_region 2 with fail
  clear hW1 hB hmm
  go_wp2_with fail
  go_loopw [11] (fun u V => ∃ t : Nat, t ≤ n ∧ u = .int .i64 (t : Int) ∧ Hid ((∃ m, m ≤ t ∧ MapS V B m (ancF (l.take t))) ∧ Below W.heap.size W V)) (fun u _ => n - (intOf u).toNat)
  case atStart => exact ⟨0, Nat.zero_le _, rfl, ⟨0, Nat.le_refl _, by rw [List.take_zero, ancF_nil]; exact H0.out.1⟩, H0.out.2⟩
  case round =>
    obtain ⟨t, ht, rfl, HQ⟩ := hrel
    obtain ⟨V, hV⟩ : ∃ z, z = wr := ⟨_, rfl⟩
    subst hV
    by_cases hlt : t < n
    · have dt : (t : Int) < (n : Int) := by omega
      have hlt2 : True := trivial
      obtain ⟨x, hx⟩ : ∃ z, l[t]? = some z := ⟨l[t]'(by rw [HL.out.len]; exact hlt), List.getElem?_eq_getElem _⟩
      obtain ⟨g1, o1, rfl, K1, c1, a1, a2, a3, a4, a5⟩ := (HL.out.below HQ.out.2).at_ t x hx
      have x0 := a5 0 _ rfl
      have x1 := a5 1 _ rfl
      have x2 := a5 2 _ rfl
      have x3 := a5 3 _ rfl
      have x4 := a5 4 _ rfl
      have x5 := a5 5 _ rfl
      have x6 := a5 6 _ rfl
      have x7 := a5 7 _ rfl
      have x8 := a5 8 _ rfl
      have x9 := a5 9 _ rfl
      rw [Nat.add_zero] at x0
      obtain ⟨kd, hkd⟩ : ∃ z, x.kind = z := ⟨_, rfl⟩
      obtain ⟨tg, htg⟩ : ∃ z, x.tag = z := ⟨_, rfl⟩
      obtain ⟨an, han⟩ : ∃ z, x.anchor = z := ⟨_, rfl⟩
      obtain ⟨vl, hvl⟩ : ∃ z, x.value = z := ⟨_, rfl⟩
      rw [hkd] at x0
      rw [htg] at x2
      rw [han] at x3
      rw [hvl] at x4
      obtain ⟨hs1, hs2, hs3⟩ := HT.out x (List.mem_of_getElem? hx)
      rw [htg] at hs1
      rw [han] at hs2
      rw [hvl] at hs3
      obtain ⟨V1, hV1⟩ : ∃ z, V.alloc (.cells #[.int .i64 kd, .int .i64 x.style, .string tg, .string an, .string vl, .int .i64 x.st, .int .i64 x.en, .int .i64 x.hd, .int .i64 x.mr, .slice K1 x.kids.length c1] 47) = z := ⟨_, rfl⟩
      have hb1 : Below V.heap.size V V1 := by rw [← hV1]; exact (Below.refl _ _).alloc (Nat.le_refl _) _
      have bx : Box V1 V.heap.size [.int .i64 kd, .int .i64 x.style, .string tg, .string an, .string vl, .int .i64 x.st, .int .i64 x.en, .int .i64 x.hd, .int .i64 x.mr, .slice K1 x.kids.length c1] := by rw [← hV1]; exact Box.new V _
      have y0 := bx.cell 0 _ rfl
      have y2 := bx.cell 2 _ rfl
      have y3 := bx.cell 3 _ rfl
      have y4 := bx.cell 4 _ rfl
      have y5 := bx.cell 5 _ rfl
      have y9 := bx.cell 9 _ rfl
      obtain ⟨m, hm, hmap⟩ := HQ.out.1
      have hsn := take_snoc hx
      have hll : (l.take t).length = t := by rw [List.length_take, HL.out.len]; omega
      have HM := Lib.hid (And.intro (hmap.below hb1) (And.intro (below_step HQ.out.2 hb1) (And.intro hsn (And.intro han hll))))
      clear hmap hx hsn hll a4 a5 bx hkd htg han hvl
      by_cases he : an = ⟨#[]⟩
      · subst he
        have hnew : ancF (l.take (t + 1)) = ancF (l.take t) := by
          funext s
          rw [HM.out.2.2.1, ancF_snoc, HM.out.2.2.2.1, if_neg (fun h => h.2.1 (by rw [← h.1]; rfl))]
        have HN := Lib.hid hnew
        clear hnew
        go_upto_region 5 with fail
        clear hV1 x0 x1 x2 x3 x4 x5 x6 x7 x8 x9
        go_wp2_with fail
        go_roundw
        case rel => exact ⟨t + 1, by omega, by go_num, ⟨m, by omega, by rw [HN.out]; exact HM.out.1⟩, HM.out.2.1⟩
        case measure => simp [intOf]; omega
      · have hne := gstr_ne he
        have hs0 := gne_size he
        have hne3 := gne_isEmpty he
        cases hf : ancF (l.take t) an with
        | some c =>
          have hlk := mapS_look HM.out.1 an (by omega)
          rw [hf] at hlk
          simp only [Option.getD_some, Option.isSome_some] at hlk
          have hnew : ancF (l.take (t + 1)) = ancF (l.take t) := by
            funext s
            rw [HM.out.2.2.1, ancF_snoc, HM.out.2.2.2.1, if_neg]
            rintro ⟨h1, _, h3⟩
            subst h1
            rw [hf] at h3
            cases h3
          have HN := Lib.hid hnew
          clear hnew hf
          go_upto_region 5 with fail
          clear hV1 x0 x1 x2 x3 x4 x5 x6 x7 x8 x9
          go_wp2_with fail
          go_roundw
          case rel => exact ⟨t + 1, by omega, by go_num, ⟨m, by omega, by rw [HN.out]; exact HM.out.1⟩, HM.out.2.1⟩
          case measure => simp [intOf]; omega
        | none =>
          have hlk := mapS_look HM.out.1 an (by omega)
          rw [hf] at hlk
          simp only [Option.getD_none, Option.isSome_none] at hlk
          obtain ⟨V2, hrun, hmap2, hg⟩ := mapS_put HM.out.1 an (by omega) (t : Int) (wf_small (by omega) (by omega)) (by omega)
          have hb2 : Below W.heap.size W V2 := HM.out.2.1.grown hg HM.out.2.1.size (fun k hk => by injection hk with hk; subst hk; rw [HBB.out]; exact Nat.le_refl _)
          have hnew : ancF (l.take (t + 1)) = fun u => if u = an then some (t : Int) else ancF (l.take t) u := by
            funext s
            rw [HM.out.2.2.1, ancF_snoc, HM.out.2.2.2.1, HM.out.2.2.2.2]
            by_cases e : s = an
            · subst e
              rw [if_pos ⟨rfl, hs0, hf⟩, if_pos rfl]
            · rw [if_neg (fun h => e h.1.symm), if_neg e]
          have HN := Lib.hid (And.intro hnew (And.intro hmap2 hb2))
          clear hnew hf hmap2 hg hb2
          go_upto_region 5 with fail
          clear hV1 x0 x1 x2 x3 x4 x5 x6 x7 x8 x9
          go_wp2_with fail
          go_roundw
          case rel => exact ⟨t + 1, by omega, by go_num, ⟨m + 1, by omega, by rw [HN.out.1]; exact HN.out.2.1⟩, HN.out.2.2⟩
          case measure => simp [intOf]; omega
    · obtain rfl : t = n := by omega
      go_wp2_with fail
      go_ret
      obtain ⟨⟨m, hm, hmap⟩, hb⟩ := HQ.out
      rw [List.take_of_length_le (by rw [HL.out.len]; exact Nat.le_refl _)] at hmap
      exact ⟨B, m, rfl, by rw [HBB.out]; exact Nat.le_refl _, hm, hmap, hb⟩
theorem MapS.kept {W W' : World} {B n : Nat} {f : ByteArray → Option Int} {row : Option Nat} (h : MapS W B n f) (hg : W.grownBy W' row) (hne : some B ≠ row) : MapS W' B n f := by
  obtain ⟨D, h1, h2⟩ := h
  exact ⟨D, h1.kept hg hne, h2⟩
theorem MapS.lt {W : World} {B n : Nat} {f : ByteArray → Option Int} (h : MapS W B n f) : B < W.heap.size := by
  obtain ⟨D, h1, _⟩ := h
  exact h1.lt
def ahdF (f : ByteArray → Option Int) (s : ByteArray) (k : Int) : Bool := match f s with
  | some c => decide (c < k)
  | none => false
theorem isAhead_at {W : World} {B m : Nat} {f : ByteArray → Option Int} (h : MapS W B m f) (s : ByteArray) (hs : s.size ≤ 1000000) (k : Int) :
    Calls Tryz.prog 14 #[.map (some B), .string s, .int .i64 k] W fun e w' => e = .returned (.bool (ahdF f s k)) ∧ W = w' := by
  have hlk := mapS_look h s (by omega)
  unfold ahdF
  cases hf : f s with
  | none =>
    rw [hf] at hlk
    simp only [Option.getD_none, Option.isSome_none] at hlk
    clear h hf
    go_enter Tryz.func14, Tryz.ntmps14
    go_wp2_with fail
    go_ret
    exact ⟨rfl, by trivial⟩
  | some c =>
    rw [hf] at hlk
    simp only [Option.getD_some, Option.isSome_some] at hlk
    clear h hf
    go_enter Tryz.func14, Tryz.ntmps14
    go_wp2_with fail
    go_ret
    exact ⟨rfl, by trivial⟩
/-- Of each alias the node that it means, of those ahead of t. -/
def tgtF (l : List Gn) (t : Nat) (k : Int) : Option Int := match l[k.toNat]? with
  | some x => if 0 ≤ k ∧ k < (t : Int) ∧ x.kind = 4 then ancF l x.value else none
  | none => none
theorem tgtF_zero (l : List Gn) : tgtF l 0 = fun _ => none := by
  funext k
  unfold tgtF
  split
  · rw [if_neg (by omega)]
  · rfl
theorem tgtF_step {l : List Gn} {t : Nat} {x : Gn} (hx : l[t]? = some x) : tgtF l (t + 1) = fun k => if k = (t : Int) ∧ x.kind = 4 ∧ ancF l x.value ≠ none then ancF l x.value else tgtF l t k := by
  funext k
  unfold tgtF
  by_cases e : k = (t : Int)
  · subst e
    rw [Int.toNat_natCast, hx]
    simp only
    by_cases h4 : x.kind = 4
    · rw [if_pos ⟨by omega, by omega, h4⟩]
      by_cases hn : ancF l x.value = none
      · rw [if_neg (fun h => h.2.2 hn), if_neg (by omega), hn]
      · rw [if_pos ⟨by trivial, h4, hn⟩]
    · rw [if_neg (fun h => h4 h.2.2), if_neg (fun h => h4 h.2.1), if_neg (fun h => h4 h.2.2)]
  · rw [if_neg (fun h => e h.1)]
    cases l[k.toNat]? with
    | none => rfl
    | some y =>
      simp only
      by_cases h : 0 ≤ k ∧ k < (t : Int) ∧ y.kind = 4
      · rw [if_pos h, if_pos ⟨h.1, by omega, h.2.2⟩]
      · rw [if_neg h, if_neg (fun h' => h ⟨h'.1, by omega, h'.2.2⟩)]
theorem ancF_wf {l : List Gn} {s : ByteArray} {c : Int} (h : ancF l s = some c) (hn : l.length ≤ 1000000) : (Lit.int .i64 c).wf = true ∧ 0 ≤ c ∧ c < (l.length : Int) ∧ s.size ≠ 0 ∧ ∃ x, l[c.toNat]? = some x ∧ x.anchor = s := by
  unfold ancF at h
  split at h
  · cases h
  · rename_i h0
    rw [Option.map_eq_some_iff] at h
    obtain ⟨i, hi, rfl⟩ := h
    rw [List.findIdx?_eq_some_iff_getElem] at hi
    obtain ⟨hl, h1, _⟩ := hi
    exact ⟨wf_small (by omega) (by omega), by omega, by omega, h0, l[i], by rw [Int.toNat_natCast]; exact List.getElem?_eq_getElem hl, by simpa using h1⟩
set_option maxHeartbeats 8000000 in
theorem targets_at {W : World} {A : Option Addr} {n cap : Nat} {l : List Gn} (hL : GL W A n cap l) (hT : TxG l) (hn : n ≤ 1000000) :
    Calls Tryz.prog 23 #[.slice A n cap] W fun e w' => ∃ B m, e = .returned (.map (some B)) ∧ W.heap.size ≤ B ∧ m ≤ n ∧ MapI w' B m (tgtF l n) ∧ Below W.heap.size W w' := by
  have hle := hL.le
  have hmx := hL.max
  have CA := Lib.hid (anchors_at hL hT hn)
  have HL := Lib.hid hL
  have HT := Lib.hid hT
  clear hL hT
  have hmm := @run_makeMap Tryz.prog
  go_enter Tryz.func23, Tryz.ntmps23
  go_wp2_with fail
  refine CA.out.mono ?_
  clear CA
  rintro e W0 ⟨BA, mA, rfl, hBA, hmA, hmapA, hbA⟩
  obtain ⟨W1, hW1⟩ : ∃ z, W0.alloc (.map #[] 0) = z := ⟨_, rfl⟩
  obtain ⟨B, hB⟩ : ∃ z, W0.heap.size = z := ⟨_, rfl⟩
  have hm0 : MapI W1 B 0 (fun _ => none) := by rw [← hW1, ← hB]; exact mapI_new W0
  have hb1 : Below W0.heap.size W0 W1 := by rw [← hW1]; exact (Below.refl _ _).alloc (Nat.le_refl _) _
  have H0 : Hid (MapI W1 B 0 (fun _ => none) ∧ MapS W1 BA mA (ancF l) ∧ Below W.heap.size W W1 ∧ W.heap.size ≤ B ∧ BA ≠ B) := ⟨hm0, hmapA.below hb1, below_step hbA hb1, by have := hbA.size; omega, by have := hmapA.lt; omega⟩
  clear hm0 hb1 hmapA hbA hBA
  go_upto_region 3 with fail
  clear hW1 hB hmm
  go_wp2_with fail
  go_loopw [14] (fun u V => ∃ t : Nat, t ≤ n ∧ u = .int .i64 (t : Int) ∧ Hid (((∃ m, m ≤ t ∧ MapI V B m (tgtF l t)) ∧ MapS V BA mA (ancF l)) ∧ Below W.heap.size W V)) (fun u _ => n - (intOf u).toNat)
  case atStart => exact ⟨0, Nat.zero_le _, rfl, ⟨⟨0, Nat.le_refl _, by rw [tgtF_zero]; exact H0.out.1⟩, H0.out.2.1⟩, H0.out.2.2.1⟩
  case round =>
    obtain ⟨t, ht, rfl, HQ⟩ := hrel
    obtain ⟨V, hV⟩ : ∃ z, z = wr := ⟨_, rfl⟩
    subst hV
    by_cases hlt : t < n
    · have dt : (t : Int) < (n : Int) := by omega
      obtain ⟨x, hx⟩ : ∃ z, l[t]? = some z := ⟨l[t]'(by rw [HL.out.len]; exact hlt), List.getElem?_eq_getElem _⟩
      obtain ⟨g1, o1, rfl, K1, c1, a1, a2, a3, a4, a5⟩ := (HL.out.below HQ.out.2).at_ t x hx
      have x0 := a5 0 _ rfl
      have x1 := a5 1 _ rfl
      have x2 := a5 2 _ rfl
      have x3 := a5 3 _ rfl
      have x4 := a5 4 _ rfl
      have x5 := a5 5 _ rfl
      have x6 := a5 6 _ rfl
      have x7 := a5 7 _ rfl
      have x8 := a5 8 _ rfl
      have x9 := a5 9 _ rfl
      rw [Nat.add_zero] at x0
      obtain ⟨kd, hkd⟩ : ∃ z, x.kind = z := ⟨_, rfl⟩
      obtain ⟨tg, htg⟩ : ∃ z, x.tag = z := ⟨_, rfl⟩
      obtain ⟨an, han⟩ : ∃ z, x.anchor = z := ⟨_, rfl⟩
      obtain ⟨vl, hvl⟩ : ∃ z, x.value = z := ⟨_, rfl⟩
      rw [hkd] at x0
      rw [htg] at x2
      rw [han] at x3
      rw [hvl] at x4
      obtain ⟨hs1, hs2, hs3⟩ := HT.out x (List.mem_of_getElem? hx)
      rw [htg] at hs1
      rw [han] at hs2
      rw [hvl] at hs3
      obtain ⟨V1, hV1⟩ : ∃ z, V.alloc (.cells #[.int .i64 kd, .int .i64 x.style, .string tg, .string an, .string vl, .int .i64 x.st, .int .i64 x.en, .int .i64 x.hd, .int .i64 x.mr, .slice K1 x.kids.length c1] 47) = z := ⟨_, rfl⟩
      have hb1 : Below V.heap.size V V1 := by rw [← hV1]; exact (Below.refl _ _).alloc (Nat.le_refl _) _
      have bx : Box V1 V.heap.size [.int .i64 kd, .int .i64 x.style, .string tg, .string an, .string vl, .int .i64 x.st, .int .i64 x.en, .int .i64 x.hd, .int .i64 x.mr, .slice K1 x.kids.length c1] := by rw [← hV1]; exact Box.new V _
      have y0 := bx.cell 0 _ rfl
      have y2 := bx.cell 2 _ rfl
      have y3 := bx.cell 3 _ rfl
      have y4 := bx.cell 4 _ rfl
      have y5 := bx.cell 5 _ rfl
      have y9 := bx.cell 9 _ rfl
      obtain ⟨m, hm, hmap⟩ := HQ.out.1.1
      have hst := tgtF_step hx
      rw [hkd, hvl] at hst
      have HM := Lib.hid (And.intro (hmap.below hb1) (And.intro (below_step HQ.out.2 hb1) (And.intro (HQ.out.1.2.below hb1) hst)))
      clear hmap hx a4 a5 bx hkd htg han hvl hst
      by_cases h4 : kd = 4
      · subst h4
        cases hf : ancF l vl with
        | none =>
          have hlk := mapS_look HM.out.2.2.1 vl (by omega)
          rw [hf] at hlk
          simp only [Option.getD_none, Option.isSome_none] at hlk
          have hnew : tgtF l (t + 1) = tgtF l t := by
            rw [HM.out.2.2.2]
            funext k
            rw [if_neg (fun h => h.2.2 hf)]
          have HN := Lib.hid hnew
          clear hnew hf
          go_upto_region 6 with fail
          clear hV1 x0 x1 x2 x3 x4 x5 x6 x7 x8 x9
          go_wp2_with fail
          go_roundw
          case rel => exact ⟨t + 1, by omega, by go_num, ⟨⟨m, by omega, by rw [HN.out]; exact HM.out.1⟩, HM.out.2.2.1⟩, HM.out.2.1⟩
          case measure => simp [intOf]; omega
        | some c =>
          have hlk := mapS_look HM.out.2.2.1 vl (by omega)
          rw [hf] at hlk
          simp only [Option.getD_some, Option.isSome_some] at hlk
          obtain ⟨hcw, hc0, hc1, _⟩ := ancF_wf hf (by rw [HL.out.len]; exact hn)
          obtain ⟨V2, hrun, hmap2, hg⟩ := mapI_put HM.out.1 (t : Int) (wf_small (by omega) (by omega)) c hcw (by omega)
          have hb2 : Below W.heap.size W V2 := HM.out.2.1.grown hg HM.out.2.1.size (fun k hk => by injection hk with hk; subst hk; exact H0.out.2.2.2.1)
          have hkA : MapS V2 BA mA (ancF l) := HM.out.2.2.1.kept hg (fun e => H0.out.2.2.2.2 (by injection e))
          have hnew : tgtF l (t + 1) = fun u => if u = (t : Int) then some c else tgtF l t u := by
            rw [HM.out.2.2.2]
            funext k
            by_cases e : k = (t : Int)
            · rw [if_pos ⟨e, rfl, by rw [hf]; simp⟩, if_pos e, hf]
            · rw [if_neg (fun h => e h.1), if_neg e]
          have HN := Lib.hid (And.intro hnew (And.intro hmap2 (And.intro hb2 hkA)))
          clear hnew hf hmap2 hg hb2 hkA hc0 hc1 hcw
          go_upto_region 6 with fail
          clear hV1 x0 x1 x2 x3 x4 x5 x6 x7 x8 x9
          go_wp2_with fail
          go_roundw
          case rel => exact ⟨t + 1, by omega, by go_num, ⟨⟨m + 1, by omega, by rw [HN.out.1]; exact HN.out.2.1⟩, HN.out.2.2.2⟩, HN.out.2.2.1⟩
          case measure => simp [intOf]; omega
      · have h4' : (kd == 4) = false := beq_eq_false_iff_ne.2 h4
        have hnew : tgtF l (t + 1) = tgtF l t := by
          rw [HM.out.2.2.2]
          funext k
          rw [if_neg (fun h => h4 h.2.1)]
        have HN := Lib.hid hnew
        clear hnew
        go_upto_region 6 with fail
        clear hV1 x0 x1 x2 x3 x4 x5 x6 x7 x8 x9
        go_wp2_with fail
        go_roundw
        case rel => exact ⟨t + 1, by omega, by go_num, ⟨⟨m, by omega, by rw [HN.out]; exact HM.out.1⟩, HM.out.2.2.1⟩, HM.out.2.1⟩
        case measure => simp [intOf]; omega
    · obtain rfl : t = n := by omega
      go_wp2_with fail
      go_ret
      obtain ⟨⟨⟨m, hm, hmap⟩, _⟩, hb⟩ := HQ.out
      exact ⟨B, m, rfl, H0.out.2.2.2.1, hm, hmap, hb⟩
theorem ckN_laid : laidOutB Tryz.prog = true := by kernel_rfl
theorem ckN_row : (78 : TypeId) < Tryz.prog.types.size := of_decide_eq_true (by kernel_rfl)
theorem ckN_wide : (match Tryz.prog.underlying 78 with | some (.array _ _) | some (.struct _) => true | _ => false) = true := by kernel_rfl
theorem ckN : Keyed Tryz.prog 78 := Keyed.of_law (deep_law_laid ckN_laid (m := 3) (by omega) ckN_row (by kernel_rfl) ckN_wide)
theorem ckN_cells : Tryz.prog.cellsOf 78 = 2 := by kernel_rfl
theorem ckN_key : Tryz.prog.keyType 78 = true := by kernel_rfl
theorem ckS_cells : Tryz.prog.cellsOf 9 = 1 := by kernel_rfl
theorem ckN_size : ∃ d, Tryz.prog.types.size = d + 1 := by
  have h : 0 < Tryz.prog.types.size := of_decide_eq_true (by kernel_rfl)
  exact ⟨_, (Nat.succ_pred_eq_of_pos h).symm⟩
def nmV (t v : ByteArray) : Value := .agg #[.string t, .string v]
theorem nm_key (t v : ByteArray) (ht : t.size ≤ 1000000000) (hv : v.size ≤ 1000000000) : ∃ l, keyOf Tryz.prog 78 (nmV t v) = some l := by
  have h1 : t.size ≤ maxLen := by unfold maxLen; omega
  have h2 : v.size ≤ maxLen := by unfold maxLen; omega
  obtain ⟨d, hd⟩ := ckN_size
  unfold keyOf
  rw [Tryz.underlying78]
  simp only [ckN_key, nmV]
  rw [hd]
  simp [Value.formed, Tryz.underlying78, ckN_cells, Program.keyLits, Tryz.underlying9, ckS_cells, Value.cells, h1, h2]
theorem nmV_inj {t v t' v' : ByteArray} (h : nmV t v = nmV t' v') : t = t' ∧ v = v' := by
  unfold nmV at h
  injection h with h
  simp only [Array.mk.injEq, List.cons.injEq, Value.string.injEq, and_true] at h
  exact h
/-- The set in block B, with at most n keys, has those that f says. -/
def SetN (W : World) (B n : Nat) (f : ByteArray → ByteArray → Bool) : Prop :=
  ∃ D : DataW Unit, W.ownsMap Tryz.prog 78 unitElem B n D ∧ ∀ t v l, keyOf Tryz.prog 78 (nmV t v) = some l → has D l = f t v
theorem setN_new (w : World) : SetN (w.alloc (.map #[] 0)) w.heap.size 0 (fun _ _ => false) := ⟨.map [], World.ownsMap_made _ _ _ _, fun t v l _ => rfl⟩
theorem SetN.below {W W' : World} {B n : Nat} {f : ByteArray → ByteArray → Bool} (h : SetN W B n f) (hb : Below W.heap.size W W') : SetN W' B n f := by
  obtain ⟨D, h1, h2⟩ := h
  exact ⟨D, h1.kept (grown_b hb) (by simp), h2⟩
theorem SetN.kept {W W' : World} {B n : Nat} {f : ByteArray → ByteArray → Bool} {row : Option Nat} (h : SetN W B n f) (hg : W.grownBy W' row) (hne : some B ≠ row) : SetN W' B n f := by
  obtain ⟨D, h1, h2⟩ := h
  exact ⟨D, h1.kept hg hne, h2⟩
theorem SetN.lt {W : World} {B n : Nat} {f : ByteArray → ByteArray → Bool} (h : SetN W B n f) : B < W.heap.size := by
  obtain ⟨D, h1, _⟩ := h
  exact h1.lt
theorem zeroU (w : World) : (zeroValue 79).run Tryz.prog w = .ok (.agg #[]) w := by kernel_rfl
theorem setN_look {W : World} {B n : Nat} {f : ByteArray → ByteArray → Bool} (h : SetN W B n f) (t v : ByteArray) (ht : t.size ≤ 1000000000) (hv : v.size ≤ 1000000000) :
    (Instr.lookup 76 (.map (some B)) (.agg #[.string t, .string v]) true).run Tryz.prog W = .ok (.tuple #[.agg #[], .bool (f t v)]) W := by
  obtain ⟨D, hown, hD⟩ := h
  obtain ⟨l, hl⟩ := nm_key t v ht hv
  obtain ⟨u, ps, hrun, hu⟩ := hown.look_ok ckN Tryz.underlying76 (zeroU W) unitElem_mk hl
  obtain ⟨rfl, _⟩ := unitElem_inv hu
  rw [hD t v l hl] at hrun
  exact hrun
theorem setN_put {W : World} {B n : Nat} {f : ByteArray → ByteArray → Bool} (h : SetN W B n f) (t v : ByteArray) (ht : t.size ≤ 1000000000) (hv : v.size ≤ 1000000000) (hn : n ≤ 1000000000) :
    ∃ W', (Instr.mapUpdate 76 (.map (some B)) (.agg #[.string t, .string v]) (.agg #[])).run Tryz.prog W = .ok () W' ∧ SetN W' B (n + 1) (fun t' v' => decide (t' = t ∧ v' = v) || f t' v') ∧ W.grownBy W' (some B) := by
  obtain ⟨D, hown, hD⟩ := h
  have hm := World.ownsMap.isMap hown
  obtain ⟨l, hl⟩ := nm_key t v ht hv
  obtain ⟨W', hrun, hown', hg⟩ := hown.update ckN Tryz.underlying76 (by unfold maxLen; omega) hl unitElem_mk
  refine ⟨W', hrun, ⟨_, hown', fun t' v' l' hl' => ?_⟩, hg⟩
  dsimp only
  by_cases e : t' = t ∧ v' = v
  · obtain ⟨rfl, rfl⟩ := e
    rw [hl] at hl'
    injection hl' with hl'
    subst hl'
    rw [has_put_same hm (ckN.key hl)]
    simp
  · have hne : l' ≠ l := fun h => by
      subst h
      exact e (nmV_inj (ckN.inj hl' hl))
    rw [has_put_other hne, hD t' v' l' hl', decide_eq_false e, Bool.false_or]
theorem run_makeMapN (t : TypeId) (k e : TypeId) (ht : Tryz.prog.underlying t = some (.map k e)) (n : Int) (w : World) : (Instr.makeMap t (some (.int .i64 n))).run Tryz.prog w = .ok (.map (some w.heap.size)) (w.alloc (.map #[] 0)) := by
  simp [Instr.makeMap, run_underlying ht, asInt, asIntOf]
/-- A row of our own of truths. -/
def BoolBox (W : World) (b : Nat) (R : List Bool) : Prop := W.heap[b]? = some (.cells (R.map Value.bool).toArray 4)
theorem BoolBox.cell {W : World} {b : Nat} {R : List Bool} (h : BoolBox W b R) (k : Nat) (z : Bool) (hk : R[k]? = some z) : W.cell? ⟨b, k, none⟩ = some (.bool z) := by
  unfold BoolBox at h
  simp [World.cell?, h, hk]
theorem BoolBox.frozen {W : World} {b : Nat} {R : List Bool} (h : BoolBox W b R) (k : Nat) : W.frozen? ⟨b, k, none⟩ = false := by
  unfold BoolBox at h
  simp [World.frozen?, h]
theorem BoolBox.lt {W : World} {b : Nat} {R : List Bool} (h : BoolBox W b R) : b < W.heap.size := (Array.getElem?_eq_some_iff.1 h).1
theorem BoolBox.below {W W' : World} {b : Nat} {R : List Bool} (h : BoolBox W b R) (hb : Below W.heap.size W W') : BoolBox W' b R := (hb.block b h.lt).trans h
theorem BoolBox.set {W : World} {b : Nat} {R : List Bool} (h : BoolBox W b R) (k : Nat) (z : Bool) : BoolBox (W.setCell ⟨b, k, none⟩ (.bool z)) b (R.set k z) := by
  unfold BoolBox at h ⊢
  simp [World.setCell, Array.getElem?_modify, h, List.map_set]
theorem BoolBox.kept {W W' : World} {b : Nat} {R : List Bool} {row : Option Nat} (h : BoolBox W b R) (hg : W.grownBy W' row) (hne : some b ≠ row) : BoolBox W' b R := (hg.block b h.lt hne).trans h
def addN (f : ByteArray → ByteArray → Bool) (t v : ByteArray) : ByteArray → ByteArray → Bool := fun t' v' => decide (t' = t ∧ v' = v) || f t' v'
/-- The keys among ks, each other one, that are there already. -/
def mkF (l : List Gn) : List Int → (ByteArray → ByteArray → Bool) → List Bool → List Bool
  | [], _, R => R
  | [k], f, R => match (if 0 ≤ k then l[k.toNat]? else none) with
    | some x => if f x.tag x.value = true then R.set k.toNat true else R
    | none => R
  | k :: _ :: ks, f, R => match (if 0 ≤ k then l[k.toNat]? else none) with
    | some x => mkF l ks (addN f x.tag x.value) (if f x.tag x.value = true then R.set k.toNat true else R)
    | none => mkF l ks f R
theorem mkF_len {l : List Gn} : ∀ (m : Nat) (ks : List Int) (f : ByteArray → ByteArray → Bool) (R : List Bool), ks.length ≤ m → (mkF l ks f R).length = R.length
  | m, [], f, R, _ => rfl
  | m, [k], f, R, _ => by
    rw [mkF]
    split
    · split <;> simp
    · rfl
  | 0, k :: k2 :: ks, f, R, h => by simp at h
  | m + 1, k :: k2 :: ks, f, R, h => by
    simp only [List.length_cons] at h
    rw [mkF]
    split
    · rw [mkF_len m ks _ _ (by omega)]; split <;> simp
    · exact mkF_len m ks _ _ (by omega)
theorem mkF_in {l : List Gn} {ks : List Int} {f : ByteArray → ByteArray → Bool} {R : List Bool} {j : Nat} {k : Nat} {x : Gn} (hk : ks[j]? = some (k : Int)) (hx : l[k]? = some x) : mkF l (ks.drop j) f R = mkF l (ks.drop (j + 2)) (addN f x.tag x.value) (if f x.tag x.value = true then R.set k true else R) := by
  have hj := (List.getElem?_eq_some_iff.1 hk).1
  have he : ks[j] = (k : Int) := by rw [List.getElem?_eq_getElem hj] at hk; injection hk
  have hl : (if (0 : Int) ≤ (k : Int) then l[((k : Int)).toNat]? else none) = some x := by rw [if_pos (by omega), Int.toNat_natCast]; exact hx
  rw [List.drop_eq_getElem_cons hj, he]
  by_cases h2 : j + 1 < ks.length
  · rw [List.drop_eq_getElem_cons h2, mkF, hl]
    simp only [Int.toNat_natCast]
  · rw [List.drop_of_length_le (show ks.length ≤ j + 1 by omega), List.drop_of_length_le (show ks.length ≤ j + 2 by omega)]
    conv => lhs; rw [mkF, hl]
    simp only [mkF, Int.toNat_natCast]
theorem mkF_out {l : List Gn} {ks : List Int} {f : ByteArray → ByteArray → Bool} {R : List Bool} {j : Nat} {k : Int} (hk : ks[j]? = some k) (hx : ¬ (0 ≤ k ∧ k < (l.length : Int))) : mkF l (ks.drop j) f R = mkF l (ks.drop (j + 2)) f R := by
  have hj := (List.getElem?_eq_some_iff.1 hk).1
  have he : ks[j] = k := by rw [List.getElem?_eq_getElem hj] at hk; injection hk
  have hl : (if (0 : Int) ≤ k then l[k.toNat]? else none) = none := by
    split
    · rw [List.getElem?_eq_none (by omega)]
    · rfl
  rw [List.drop_eq_getElem_cons hj, he]
  by_cases h2 : j + 1 < ks.length
  · rw [List.drop_eq_getElem_cons h2, mkF, hl]
  · rw [List.drop_of_length_le (show ks.length ≤ j + 1 by omega), List.drop_of_length_le (show ks.length ≤ j + 2 by omega)]
    conv => lhs; rw [mkF, hl]
    simp only [mkF]
theorem cwithin_at (W : World) (n : Nat) (hn : n ≤ 1000000) (k : Int) :
    Calls Tryz.prog 25 #[.int .i64 (n : Int), .int .i64 k] W fun e w' => e = .returned (.bool (decide (0 ≤ k) && decide (k < (n : Int)))) ∧ W = w' := by
  by_cases h : 0 ≤ k
  · have d : decide (0 ≤ k) = true := decide_eq_true h
    go_enter Tryz.func25, Tryz.ntmps25
    go_wp2_with fail
    go_ret
    exact ⟨by simp [h], by trivial⟩
  · have d : decide (0 ≤ k) = false := decide_eq_false h
    go_enter Tryz.func25, Tryz.ntmps25
    go_wp2_with fail
    go_ret
    exact ⟨by simp [h], by trivial⟩
set_option maxHeartbeats 16000000 in
theorem mark_at {W0 W : World} {A : Option Addr} {n cap : Nat} {l : List Gn} {K : Option Addr} {kl kc b : Nat} {ks : List Int} {R : List Bool} (hL : GL W0 A n cap l) (hT : TxG l) (hn : n ≤ 1000000) (hk : RdC W0 K (ki ks)) (hkl : ks.length = kl) (hkl2 : kl ≤ 1000000) (hb0 : Below W0.heap.size W0 W) (hR : BoolBox W b R) (hRl : R.length = n) (hb : W0.heap.size ≤ b) :
    Calls Tryz.prog 22 #[.slice A n cap, .slice K kl kc, .slice (some ⟨b, 0, none⟩) n n] W fun e w' => e = .returned (.tuple #[]) ∧ BoolBox w' b (mkF l ks (fun _ _ => false) R) ∧ Below W0.heap.size W0 w' := by
  have hle := hL.le
  have hmx := hL.max
  obtain ⟨Q, hQ⟩ : ∃ z, mkF l ks (fun _ _ => false) R = z := ⟨_, rfl⟩
  rw [hQ]
  obtain ⟨B, hB⟩ : ∃ z, W.heap.size = z := ⟨_, rfl⟩
  obtain ⟨W1, hW1⟩ : ∃ z, W.alloc (.map #[] 0) = z := ⟨_, rfl⟩
  have hm0 : SetN W1 B 0 (fun _ _ => false) := by rw [← hW1, ← hB]; exact setN_new W
  have hb1 : Below W.heap.size W W1 := by rw [← hW1]; exact (Below.refl _ _).alloc (Nat.le_refl _) _
  have hbB : b ≠ B := by have := hR.lt; omega
  have HL := Lib.hid hL
  have HT := Lib.hid hT
  have HK := Lib.hid (And.intro hk hkl)
  have H0 : Hid (SetN W1 B 0 (fun _ _ => false) ∧ BoolBox W1 b R ∧ Below W0.heap.size W0 W1 ∧ mkF l ks (fun _ _ => false) R = Q ∧ W0.heap.size ≤ B ∧ b ≠ B ∧ W0.heap.size ≤ b) := ⟨hm0, hR.below hb1, below_step hb0 hb1, hQ, by have := hb0.size; omega, hbB, hb⟩
  have HRl := Lib.hid hRl
  clear hL hT hk hkl hm0 hb1 hR hRl hQ hb0 hb hbB
  have hmm := fun (q : Int) (w : World) => run_makeMapN 76 _ _ Tryz.underlying76 q w
  have dkl : ((kl : Int)).tdiv 2 = ((kl / 2 : Nat) : Int) := by rw [Int.tdiv_eq_ediv_of_nonneg (by omega)]; omega
  go_enter Tryz.func22, Tryz.ntmps22
  go_upto_region 1 with fail
  clear hW1 hB hmm dkl
  go_wp2_with fail
  go_loopw [7] (fun u V => ∃ (j m : Nat) (f : ByteArray → ByteArray → Bool) (S : List Bool), j ≤ kl + 1 ∧ m ≤ j ∧ u = .int .i64 (j : Int) ∧ S.length = n ∧ Hid (SetN V B m f ∧ BoolBox V b S ∧ Below W0.heap.size W0 V ∧ mkF l (ks.drop j) f S = Q)) (fun u _ => kl + 2 - (intOf u).toNat)
  case atStart => exact ⟨0, 0, _, R, by omega, Nat.le_refl _, rfl, HRl.out, H0.out.1, H0.out.2.1, H0.out.2.2.1, by rw [List.drop_zero]; exact H0.out.2.2.2.1⟩
  case round =>
    obtain ⟨j, m, f, S, hj, hmj, rfl, hSl, HQ⟩ := hrel
    obtain ⟨V, hV⟩ : ∃ z, z = wr := ⟨_, rfl⟩
    subst hV
    by_cases hlt : j < kl
    · have dt : (j : Int) < (kl : Int) := by omega
      obtain ⟨k, hk⟩ : ∃ z, ks[j]? = some z := ⟨ks[j]'(by rw [HK.out.2]; exact hlt), List.getElem?_eq_getElem _⟩
      obtain ⟨kg, ko, rfl, hkc⟩ := (HK.out.1.below HQ.out.2.2.1).addr (by rw [ki_len, HK.out.2]; omega)
      have ck := hkc j _ (ki_at hk)
      clear hkc
      by_cases hin : 0 ≤ k ∧ k < (n : Int)
      · obtain ⟨k0, rfl⟩ : ∃ k0 : Nat, k = (k0 : Int) := ⟨k.toNat, by omega⟩
        have hk0 : k0 < n := by omega
        have CW := Lib.hid (cwithin_at V n hn (k0 : Int))
        rw [decide_eq_true (show (0 : Int) ≤ (k0 : Int) by omega), decide_eq_true (show (k0 : Int) < (n : Int) by omega)] at CW
        obtain ⟨x, hx⟩ : ∃ z, l[k0]? = some z := ⟨l[k0]'(by rw [HL.out.len]; exact hk0), List.getElem?_eq_getElem _⟩
        obtain ⟨g1, o1, rfl, K1, c1, a1, a2, a3, a4, a5⟩ := (HL.out.below HQ.out.2.2.1).at_ k0 x hx
        have x2 := a5 2 _ rfl
        have x4 := a5 4 _ rfl
        obtain ⟨hs1, hs2, hs3⟩ := HT.out x (List.mem_of_getElem? hx)
        have hst := mkF_in (f := f) (R := S) hk hx
        rw [HQ.out.2.2.2] at hst
        obtain ⟨tg, htg⟩ : ∃ z, x.tag = z := ⟨_, rfl⟩
        obtain ⟨vl, hvl⟩ : ∃ z, x.value = z := ⟨_, rfl⟩
        rw [htg] at x2 hs1 hst
        rw [hvl] at x4 hs3 hst
        obtain ⟨V1, hV1⟩ : ∃ z, V.alloc (.cells #[.string tg, .string vl] 78) = z := ⟨_, rfl⟩
        obtain ⟨bv, hbv⟩ : ∃ z, V.heap.size = z := ⟨_, rfl⟩
        have hb1 : Below V.heap.size V V1.drew := by rw [← hV1]; exact ((Below.refl _ _).alloc (Nat.le_refl _) _).drew
        have y0 : V1.drew.cell? ⟨bv, 0, none⟩ = some (.string tg) := by rw [World.cell?_drew, ← hV1, ← hbv, World.cell?_alloc_mark]; rfl
        have y1 : V1.drew.cell? ⟨bv, 1, none⟩ = some (.string vl) := by rw [World.cell?_drew, ← hV1, ← hbv, World.cell?_alloc_mark]; rfl
        obtain ⟨U1, hU1⟩ : ∃ z, V1.drew = z := ⟨_, rfl⟩
        rw [hU1] at hb1 y0 y1
        obtain ⟨V2, hV2⟩ : ∃ z, U1.alloc (.cells #[] 79) = z := ⟨_, rfl⟩
        have hb2 : Below U1.heap.size U1 V2 := by rw [← hV2]; exact (Below.refl _ _).alloc (Nat.le_refl _) _
        have hb12 := below_step hb1 hb2
        have hbvl : bv < V2.heap.size := by
          have e1 : V1.heap.size = bv + 1 := by rw [← hV1, ← hbv]; simp
          have e2 : U1.heap.size = V1.heap.size := by rw [← hU1]; rfl
          have := hb2.size
          omega
        have z0 := cell_keep hb2 y0
        have z1 := cell_keep hb2 y1
        have hlk := setN_look (HQ.out.1.below hb1) tg vl (by omega) (by omega)
        have HS2 := Lib.hid (And.intro (HQ.out.1.below hb12) (And.intro (HQ.out.2.1.below hb12) (below_step HQ.out.2.2.1 hb12)))
        have hbb : b < bv := by have := HQ.out.2.1.lt; omega
        have hbe : Below V.heap.size V (V.alloc (.cells #[.string ⟨#[]⟩, .string ⟨#[]⟩] 78)).drew := ((Below.refl _ _).alloc (Nat.le_refl _) _).drew
        have x2a := cell_keep hbe x2
        have x4a := cell_keep hbe x4
        have HST := Lib.hid hst
        clear hk hx a4 a5 htg hvl hb1 hb2 hb12 hbe hst
        go_wp2_with fail
        refine CW.out.mono ?_
        rintro e w2 ⟨rfl, rfl⟩
        clear CW
        go_upto_region 6 with fail
        go_wp2_with fail
        go_region
        clear hV1 hbv x2 x4 x2a x4a ck hU1
        cases hf : f tg vl with
        | true =>
          rw [hf] at hlk HST
          obtain ⟨sv, hsv⟩ : ∃ z, S[k0]? = some z := ⟨S[k0]'(by rw [hSl]; exact hk0), List.getElem?_eq_getElem _⟩
          have cb := HS2.out.2.1.cell k0 sv hsv
          have fb := HS2.out.2.1.frozen k0
          have dk0 : (k0 : Int) < (n : Int) := by omega
          obtain ⟨V3, hV3⟩ : ∃ z, V2.setCell ⟨b, k0, none⟩ (.bool true) = z := ⟨_, rfl⟩
          have hg3 : V2.grownBy V3 (some b) := by rw [← hV3]; exact grown_store V2 b k0 _
          have hs3 : SetN V3 B m f := HS2.out.1.kept hg3 (fun e => H0.out.2.2.2.2.2.1 (by injection e with e; exact e.symm))
          have hbx3 : BoolBox V3 b (S.set k0 true) := by rw [← hV3]; exact HS2.out.2.1.set k0 true
          have hbl3 : Below W0.heap.size W0 V3 := HS2.out.2.2.grown hg3 HS2.out.2.2.size (fun q hq => by injection hq with hq; subst hq; exact H0.out.2.2.2.2.2.2)
          have w0 : V3.cell? ⟨bv, 0, none⟩ = some (.string tg) := by rw [cell_heap (hg3.block bv hbvl (fun e => by injection e with e; omega))]; exact z0
          have w1 : V3.cell? ⟨bv, 1, none⟩ = some (.string vl) := by rw [cell_heap (hg3.block bv hbvl (fun e => by injection e with e; omega))]; exact z1
          obtain ⟨V4, hrun, hmap4, hg4⟩ := setN_put hs3 tg vl (by omega) (by omega) (by omega)
          have HN : Hid (SetN V4 B (m + 1) (addN f tg vl) ∧ BoolBox V4 b (S.set k0 true) ∧ Below W0.heap.size W0 V4 ∧ mkF l (ks.drop (j + 2)) (addN f tg vl) (S.set k0 true) = Q) := ⟨hmap4, hbx3.kept hg4 (fun e => H0.out.2.2.2.2.2.1 (by injection e)), hbl3.grown hg4 hbl3.size (fun q hq => by injection hq with hq; subst hq; exact H0.out.2.2.2.2.1), by have := HST.out; rw [if_pos rfl] at this; exact this.symm⟩
          clear hf hsv hg3 hs3 hbx3 hbl3 hmap4 hg4
          go_wp2_with fail
          exact ⟨⟨j + 2, m + 1, _, _, by omega, by omega, by go_num, by simp [hSl], HN.out⟩, by simp [intOf]; omega⟩
        | false =>
          rw [hf] at hlk HST
          obtain ⟨V4, hrun, hmap4, hg4⟩ := setN_put HS2.out.1 tg vl (by omega) (by omega) (by omega)
          have HN : Hid (SetN V4 B (m + 1) (addN f tg vl) ∧ BoolBox V4 b S ∧ Below W0.heap.size W0 V4 ∧ mkF l (ks.drop (j + 2)) (addN f tg vl) S = Q) := ⟨hmap4, HS2.out.2.1.kept hg4 (fun e => H0.out.2.2.2.2.2.1 (by injection e)), HS2.out.2.2.grown hg4 HS2.out.2.2.size (fun q hq => by injection hq with hq; subst hq; exact H0.out.2.2.2.2.1), by have := HST.out; rw [if_neg (by decide)] at this; exact this.symm⟩
          clear hf hmap4 hg4
          go_wp2_with fail
          exact ⟨⟨j + 2, m + 1, _, _, by omega, by omega, by go_num, by simp [hSl], HN.out⟩, by simp [intOf]; omega⟩
      · have hd : (decide (0 ≤ k) && decide (k < (n : Int))) = false := by
          rw [Bool.and_eq_false_iff, decide_eq_false_iff_not, decide_eq_false_iff_not]
          omega
        have CW := Lib.hid (cwithin_at V n hn k)
        rw [hd] at CW
        have hst := mkF_out (f := f) (R := S) (l := l) hk (by rw [HL.out.len]; exact hin)
        rw [HQ.out.2.2.2] at hst
        have HST := Lib.hid hst
        clear hk hst hd
        go_wp2_with fail
        refine CW.out.mono ?_
        rintro e w2 ⟨rfl, rfl⟩
        clear CW
        go_wp2_with fail
        go_roundw
        case rel => exact ⟨j + 2, m, f, S, by omega, by omega, by go_num, hSl, HQ.out.1, HQ.out.2.1, HQ.out.2.2.1, HST.out.symm⟩
        case measure => simp [intOf]; omega
    · go_wp2_with fail
      have := HQ.out.2.2.2
      rw [List.drop_of_length_le (by rw [HK.out.2]; omega)] at this
      rw [← this] at *
      exact bodyPost_end (results_none rfl _ _ _) rfl ⟨rfl, HQ.out.2.1, HQ.out.2.2.1⟩
theorem bool_info : (Tryz.prog.info? 4).map (fun i => (i.zero, i.size, i.bytes)) = some (some (.bool false), 1, 1) := by kernel_rfl
theorem run_make_bools (n : Nat) (h : n ≤ 1000000) (w : World) :
    (Instr.makeSlice 44 (.int .i64 (n : Int)) (.int .i64 (n : Int))).run Tryz.prog w = .ok (.slice (some ⟨w.heap.size, 0, none⟩) n n) (w.alloc (.cells ((List.replicate n false).map Value.bool).toArray 4)) := by
  obtain ⟨i, hi, hz, h1, h2⟩ := info_parts bool_info
  have hb : (i.bytes : Int) * (n : Int) ≤ 281474976710656 := by rw [h2]; omega
  have hr := run_make (P := Tryz.prog) w 44 4 i _ Tryz.underlying44 hi hz .i64 .i64 n n (by omega) (by omega) hb (by omega)
  simp only [Int.toNat_natCast] at hr
  rw [hr]
  have e : madeCells (Value.bool false).cells (n * i.size) = ((List.replicate n false).map Value.bool).toArray := by
    rw [h1, Nat.mul_one]
    apply Array.toList_inj.1
    have : (Value.bool false).cells = #[.bool false] := rfl
    rw [this, toList_madeCells_one]
    simp
  rw [e]
/-- Of each node whether it is a key that its mapping has already. -/
def rpS (l : List Gn) (R : List Bool) (x : Gn) : List Bool := if x.kind = 3 then mkF l x.kids (fun _ _ => false) R else R
def repF (l : List Gn) : List Bool := l.foldl (rpS l) (List.replicate l.length false)
theorem rpS_len (l : List Gn) (R : List Bool) (x : Gn) : (rpS l R x).length = R.length := by
  unfold rpS
  split
  · exact mkF_len _ _ _ _ (Nat.le_refl _)
  · rfl
theorem rp_len (l : List Gn) : ∀ (m : List Gn) (R : List Bool), (m.foldl (rpS l) R).length = R.length
  | [], R => rfl
  | x :: m, R => by rw [List.foldl_cons, rp_len l m, rpS_len]
theorem repF_len (l : List Gn) : (repF l).length = l.length := by unfold repF; rw [rp_len]; simp
set_option maxHeartbeats 8000000 in
theorem rep_at {W : World} {A : Option Addr} {n cap : Nat} {l : List Gn} (hL : GL W A n cap l) (hT : TxG l) (hS : Small l) (hn : n ≤ 1000000) :
    Calls Tryz.prog 13 #[.slice A n cap] W fun e w' => ∃ b, e = .returned (.slice (some ⟨b, 0, none⟩) n n) ∧ W.heap.size ≤ b ∧ BoolBox w' b (repF l) ∧ Below W.heap.size W w' := by
  have hle := hL.le
  have hmx := hL.max
  obtain ⟨W1, hW1⟩ : ∃ z, W.alloc (.cells ((List.replicate n false).map Value.bool).toArray 4) = z := ⟨_, rfl⟩
  obtain ⟨b, hb⟩ : ∃ z, W.heap.size = z := ⟨_, rfl⟩
  have hmk := run_make_bools n hn W
  rw [hW1, hb] at hmk
  have hbx : BoolBox W1 b (List.replicate n false) := by unfold BoolBox; rw [← hW1, ← hb]; exact heap_alloc_new W _
  have hb1 : Below W.heap.size W W1 := by rw [← hW1]; exact (Below.refl _ _).alloc (Nat.le_refl _) _
  have HL := Lib.hid hL
  have HT := Lib.hid hT
  have HS := Lib.hid hS
  have H0 := Lib.hid (And.intro hbx hb1)
  have HB := Lib.hid hb
  clear hL hT hS hbx hb1 hb hW1
  go_enter Tryz.func13, Tryz.ntmps13
  go_upto_region 2 with fail
  clear hmk
  go_wp2_with fail
  go_loopw [11] (fun u V => ∃ t : Nat, t ≤ n ∧ u = .int .i64 (t : Int) ∧ Hid (BoolBox V b ((l.take t).foldl (rpS l) (List.replicate n false)) ∧ Below W.heap.size W V)) (fun u _ => n - (intOf u).toNat)
  case atStart => exact ⟨0, Nat.zero_le _, rfl, by rw [List.take_zero]; exact H0.out.1, H0.out.2⟩
  case round =>
    obtain ⟨t, ht, rfl, HQ⟩ := hrel
    obtain ⟨V, hV⟩ : ∃ z, z = wr := ⟨_, rfl⟩
    subst hV
    by_cases hlt : t < n
    · have dt : (t : Int) < (n : Int) := by omega
      obtain ⟨x, hx⟩ : ∃ z, l[t]? = some z := ⟨l[t]'(by rw [HL.out.len]; exact hlt), List.getElem?_eq_getElem _⟩
      obtain ⟨g1, o1, rfl, K1, c1, a1, a2, a3, a4, a5⟩ := (HL.out.below HQ.out.2).at_ t x hx
      have x0 := a5 0 _ rfl
      have x1 := a5 1 _ rfl
      have x2 := a5 2 _ rfl
      have x3 := a5 3 _ rfl
      have x4 := a5 4 _ rfl
      have x5 := a5 5 _ rfl
      have x6 := a5 6 _ rfl
      have x7 := a5 7 _ rfl
      have x8 := a5 8 _ rfl
      have x9 := a5 9 _ rfl
      rw [Nat.add_zero] at x0
      obtain ⟨kd, hkd⟩ : ∃ z, x.kind = z := ⟨_, rfl⟩
      obtain ⟨tg, htg⟩ : ∃ z, x.tag = z := ⟨_, rfl⟩
      obtain ⟨an, han⟩ : ∃ z, x.anchor = z := ⟨_, rfl⟩
      obtain ⟨vl, hvl⟩ : ∃ z, x.value = z := ⟨_, rfl⟩
      rw [hkd] at x0
      rw [htg] at x2
      rw [han] at x3
      rw [hvl] at x4
      obtain ⟨hs1, hs2, hs3⟩ := HT.out x (List.mem_of_getElem? hx)
      rw [htg] at hs1
      rw [han] at hs2
      rw [hvl] at hs3
      obtain ⟨V1, hV1⟩ : ∃ z, V.alloc (.cells #[.int .i64 kd, .int .i64 x.style, .string tg, .string an, .string vl, .int .i64 x.st, .int .i64 x.en, .int .i64 x.hd, .int .i64 x.mr, .slice K1 x.kids.length c1] 47) = z := ⟨_, rfl⟩
      have hb1 : Below V.heap.size V V1 := by rw [← hV1]; exact (Below.refl _ _).alloc (Nat.le_refl _) _
      have bx : Box V1 V.heap.size [.int .i64 kd, .int .i64 x.style, .string tg, .string an, .string vl, .int .i64 x.st, .int .i64 x.en, .int .i64 x.hd, .int .i64 x.mr, .slice K1 x.kids.length c1] := by rw [← hV1]; exact Box.new V _
      have y0 := bx.cell 0 _ rfl
      have y2 := bx.cell 2 _ rfl
      have y3 := bx.cell 3 _ rfl
      have y4 := bx.cell 4 _ rfl
      have y5 := bx.cell 5 _ rfl
      have y9 := bx.cell 9 _ rfl
      have hsn := take_snoc hx
      obtain ⟨R, hR⟩ : ∃ z, (l.take t).foldl (rpS l) (List.replicate n false) = z := ⟨_, rfl⟩
      have hRl : R.length = n := by rw [← hR, rp_len]; simp
      have hnew : (l.take (t + 1)).foldl (rpS l) (List.replicate n false) = rpS l R x := by rw [hsn, List.foldl_append, hR]; rfl
      have hbxR := HQ.out.1
      rw [hR] at hbxR
      obtain ⟨kl, hkl⟩ : ∃ z, x.kids.length = z := ⟨_, rfl⟩
      have hkl2 := (HS.out x (List.mem_of_getElem? hx)).1
      rw [hkl] at hkl2
      have CM : Hid (∀ U, Below V1.heap.size V1 U → Calls Tryz.prog 22 #[.slice (some ⟨g1, o1, none⟩) n cap, .slice K1 kl c1, .slice (some ⟨b, 0, none⟩) n n] U fun e w' => e = .returned (.tuple #[]) ∧ BoolBox w' b (mkF l x.kids (fun _ _ => false) R) ∧ Below W.heap.size W w') := fun U hU => by
        obtain ⟨gA, oA, eA, KA, cA, A1, A2, A3, A4, A5⟩ := HL.out.at_ t x hx
        have e9 := cell_keep HQ.out.2 (A5 9 _ rfl)
        injection eA with eA
        injection eA with eA1 eA2
        subst eA1 eA2
        rw [x9] at e9
        simp only [Option.some.injEq, Value.slice.injEq] at e9
        obtain ⟨rfl, _, rfl⟩ := e9
        exact mark_at HL.out HT.out hn A4 hkl hkl2 (below_step (below_step HQ.out.2 hb1) hU) ((hbxR.below hb1).below hU) hRl (by rw [HB.out]; exact Nat.le_refl _)
      rw [hkl] at x9 y9 hV1
      have HM := Lib.hid (And.intro hnew (And.intro (hbxR.below hb1) (And.intro (below_step HQ.out.2 hb1) hkd)))
      clear hx hsn hR hRl hbxR hnew a4 a5 bx hkd htg han hvl hb1
      by_cases h3 : kd = 3
      · subst h3
        have hr : rpS l R x = mkF l x.kids (fun _ _ => false) R := by unfold rpS; rw [if_pos HM.out.2.2.2]
        have HR := Lib.hid hr
        clear hr
        go_upto_region 5 with fail
        clear hV1 x0 x1 x2 x3 x4 x5 x6 x7 x8 x9
        go_wp2_with fail
        refine (CM.out V1 (Below.refl _ _)).mono ?_
        rintro e V2 ⟨rfl, hbx2, hbl2⟩
        have HN := Lib.hid (And.intro hbx2 hbl2)
        clear hbx2 hbl2 y0 y2 y3 y4 y5 y9 CM
        go_wp2_with fail
        go_roundw
        case rel => exact ⟨t + 1, by omega, by go_num, by rw [HM.out.1, HR.out]; exact HN.out.1, HN.out.2⟩
        case measure => simp [intOf]; omega
      · have h3' : (kd == 3) = false := beq_eq_false_iff_ne.2 h3
        have hr : rpS l R x = R := by unfold rpS; rw [if_neg (by rw [HM.out.2.2.2]; exact h3)]
        have HR := Lib.hid hr
        clear hr CM
        go_upto_region 5 with fail
        clear hV1 x0 x1 x2 x3 x4 x5 x6 x7 x8 x9
        go_wp2_with fail
        go_roundw
        case rel => exact ⟨t + 1, by omega, by go_num, by rw [HM.out.1, HR.out]; exact HM.out.2.1, HM.out.2.2.1⟩
        case measure => simp [intOf]; omega
    · obtain rfl : t = n := by omega
      go_wp2_with fail
      go_ret
      obtain ⟨hbx, hbl⟩ := HQ.out
      rw [List.take_of_length_le (by rw [HL.out.len]; exact Nat.le_refl _)] at hbx
      refine ⟨b, rfl, by rw [HB.out]; exact Nat.le_refl _, ?_, hbl⟩
      unfold repF
      rw [HL.out.len]
      exact hbx
/-- What is wrong with a node: an alias of nothing ahead, an anchor or a key that is there already. -/
def badF (l : List Gn) (R : List Bool) (i : Nat) (x : Gn) : Int :=
  if x.kind = 4 ∧ ahdF (ancF l) x.value (i : Int) = false then 4 else if ahdF (ancF l) x.anchor (i : Int) = true ∨ R.getD i false = true then 5 else 0
def ckGo (l : List Gn) (R : List Bool) : List Gn → Nat → Int × Int
  | [], _ => (0, 0)
  | x :: t, i => if badF l R i x = 0 then ckGo l R t (i + 1) else (badF l R i x, x.st)
def ckF (l : List Gn) : Int × Int := ckGo l (repF l) l 0
theorem ckGo_step {l : List Gn} {R : List Bool} {t : Nat} {x : Gn} (hx : l[t]? = some x) : ckGo l R (l.drop t) t = if badF l R t x = 0 then ckGo l R (l.drop (t + 1)) (t + 1) else (badF l R t x, x.st) := by
  have ht := (List.getElem?_eq_some_iff.1 hx).1
  have he : l[t] = x := by rw [List.getElem?_eq_getElem ht] at hx; injection hx
  rw [List.drop_eq_getElem_cons ht, he, ckGo]
set_option maxHeartbeats 16000000 in
theorem ccheck_at {W : World} {A : Option Addr} {n cap : Nat} {l : List Gn} (hL : GL W A n cap l) (hT : TxG l) (hS : Small l) (hn : n ≤ 1000000) :
    Calls Tryz.prog 7 #[.slice A n cap] W fun e w' => e = .returned (.tuple #[.int .i64 (ckF l).1, .int .i64 (ckF l).2]) ∧ Below W.heap.size W w' := by
  have hle := hL.le
  have hmx := hL.max
  obtain ⟨Q, hQ⟩ : ∃ z, ckF l = z := ⟨_, rfl⟩
  rw [hQ]
  have CA := Lib.hid (anchors_at hL hT hn)
  have CR : Hid (∀ V, Below W.heap.size W V → Calls Tryz.prog 13 #[.slice A n cap] V fun e w' => ∃ b, e = .returned (.slice (some ⟨b, 0, none⟩) n n) ∧ V.heap.size ≤ b ∧ BoolBox w' b (repF l) ∧ Below V.heap.size V w') := fun V hV => rep_at (hL.below hV) hT hS hn
  have HL := Lib.hid hL
  have HT := Lib.hid hT
  have HQ0 := Lib.hid hQ
  clear hL hT hS hQ
  go_enter Tryz.func7, Tryz.ntmps7
  go_wp2_with fail
  refine CA.out.mono ?_
  clear CA
  rintro e W1 ⟨BA, mA, rfl, hBA, hmA, hmap, hb1⟩
  have H1 := Lib.hid (And.intro hmap hb1)
  clear hmap hb1
  go_wp2_with fail
  refine (CR.out W1 H1.out.2).mono ?_
  clear CR
  rintro e W2 ⟨b, rfl, hbB, hbx, hb2⟩
  obtain ⟨R, hR⟩ : ∃ z, repF l = z := ⟨_, rfl⟩
  have hRl : R.length = n := by rw [← hR, repF_len]; exact HL.out.len
  rw [hR] at hbx
  have H2 : Hid (MapS W2 BA mA (ancF l) ∧ BoolBox W2 b R ∧ Below W.heap.size W W2 ∧ ckF l = ckGo l R l 0 ∧ R.length = n) := ⟨H1.out.1.below hb2, hbx, below_step H1.out.2 hb2, by unfold ckF; rw [hR], hRl⟩
  clear hbx hb2 hR hRl H1
  go_wp2_with fail
  go_loopw [14] (fun u V => ∃ t : Nat, t ≤ n ∧ u = .int .i64 (t : Int) ∧ Hid (Below W2.heap.size W2 V ∧ ckGo l R (l.drop t) t = Q)) (fun u _ => n - (intOf u).toNat)
  case atStart => exact ⟨0, Nat.zero_le _, rfl, Below.refl _ _, by rw [List.drop_zero, ← H2.out.2.2.2.1]; exact HQ0.out⟩
  case round =>
    obtain ⟨t, ht, rfl, HQ1⟩ := hrel
    obtain ⟨V, hV⟩ : ∃ z, z = wr := ⟨_, rfl⟩
    subst hV
    have HQ : Hid (True ∧ Below W.heap.size W V) := ⟨trivial, below_step H2.out.2.2.1 HQ1.out.1⟩
    by_cases hlt : t < n
    · have dt : (t : Int) < (n : Int) := by omega
      obtain ⟨x, hx⟩ : ∃ z, l[t]? = some z := ⟨l[t]'(by rw [HL.out.len]; exact hlt), List.getElem?_eq_getElem _⟩
      obtain ⟨g1, o1, rfl, K1, c1, a1, a2, a3, a4, a5⟩ := (HL.out.below HQ.out.2).at_ t x hx
      have x0 := a5 0 _ rfl
      have x1 := a5 1 _ rfl
      have x2 := a5 2 _ rfl
      have x3 := a5 3 _ rfl
      have x4 := a5 4 _ rfl
      have x5 := a5 5 _ rfl
      have x6 := a5 6 _ rfl
      have x7 := a5 7 _ rfl
      have x8 := a5 8 _ rfl
      have x9 := a5 9 _ rfl
      rw [Nat.add_zero] at x0
      obtain ⟨kd, hkd⟩ : ∃ z, x.kind = z := ⟨_, rfl⟩
      obtain ⟨tg, htg⟩ : ∃ z, x.tag = z := ⟨_, rfl⟩
      obtain ⟨an, han⟩ : ∃ z, x.anchor = z := ⟨_, rfl⟩
      obtain ⟨vl, hvl⟩ : ∃ z, x.value = z := ⟨_, rfl⟩
      rw [hkd] at x0
      rw [htg] at x2
      rw [han] at x3
      rw [hvl] at x4
      obtain ⟨hs1, hs2, hs3⟩ := HT.out x (List.mem_of_getElem? hx)
      rw [htg] at hs1
      rw [han] at hs2
      rw [hvl] at hs3
      obtain ⟨V1, hV1⟩ : ∃ z, V.alloc (.cells #[.int .i64 kd, .int .i64 x.style, .string tg, .string an, .string vl, .int .i64 x.st, .int .i64 x.en, .int .i64 x.hd, .int .i64 x.mr, .slice K1 x.kids.length c1] 47) = z := ⟨_, rfl⟩
      have hb1 : Below V.heap.size V V1 := by rw [← hV1]; exact (Below.refl _ _).alloc (Nat.le_refl _) _
      have bx : Box V1 V.heap.size [.int .i64 kd, .int .i64 x.style, .string tg, .string an, .string vl, .int .i64 x.st, .int .i64 x.en, .int .i64 x.hd, .int .i64 x.mr, .slice K1 x.kids.length c1] := by rw [← hV1]; exact Box.new V _
      have y0 := bx.cell 0 _ rfl
      have y2 := bx.cell 2 _ rfl
      have y3 := bx.cell 3 _ rfl
      have y4 := bx.cell 4 _ rfl
      have y5 := bx.cell 5 _ rfl
      have y9 := bx.cell 9 _ rfl
      have hst := ckGo_step (R := R) hx
      rw [HQ1.out.2] at hst
      obtain ⟨bd, hbd⟩ : ∃ z, badF l R t x = z := ⟨_, rfl⟩
      rw [hbd] at hst
      unfold badF at hbd
      rw [hkd, hvl, han] at hbd
      obtain ⟨st, hst0⟩ : ∃ z, x.st = z := ⟨_, rfl⟩
      rw [hst0] at hst x5 y5 hV1
      have C1 := Lib.hid (isAhead_at ((H2.out.1.below HQ1.out.1).below hb1) vl hs3 (t : Int))
      have C2 := Lib.hid (isAhead_at ((H2.out.1.below HQ1.out.1).below hb1) an hs2 (t : Int))
      obtain ⟨rt, hrt⟩ : ∃ z, R[t]? = some z := ⟨R[t]'(by rw [H2.out.2.2.2.2]; exact hlt), List.getElem?_eq_getElem _⟩
      have hrd : R.getD t false = rt := by rw [List.getD_eq_getElem?_getD, hrt]; rfl
      rw [hrd] at hbd
      have yr := ((H2.out.2.1.below HQ1.out.1).below hb1).cell t rt hrt
      have HST := Lib.hid hst
      have HBD := Lib.hid hbd
      have HM := Lib.hid (And.intro (below_step HQ1.out.1 hb1) (below_step HQ.out.2 hb1))
      obtain ⟨p, hp⟩ : ∃ z, ahdF (ancF l) vl (t : Int) = z := ⟨_, rfl⟩
      obtain ⟨q, hq⟩ : ∃ z, ahdF (ancF l) an (t : Int) = z := ⟨_, rfl⟩
      rw [hp, hq] at HBD
      rw [hp] at C1
      rw [hq] at C2
      clear hx a4 a5 bx hkd htg han hvl hst hst0 hrt hrd hb1 hp hq hbd
      go_upto_region 5 with fail
      clear hV1 x0 x1 x2 x3 x4 x5 x6 x7 x8 x9
      by_cases h4 : kd = 4
      case' pos =>
        subst h4
        go_wp2_with fail
        refine C1.out.mono ?_
        rintro e w3 ⟨rfl, rfl⟩
      case' neg =>
        have h4' : (kd == 4) = false := beq_eq_false_iff_ne.2 h4
      case pos =>
        cases p with
        | false =>
          have hh : Q = (4, st) := by
            have h1 : bd = 4 := by rw [← HBD.out]; exact if_pos ⟨by trivial, rfl⟩
            have := HST.out
            rw [h1, if_neg (by decide)] at this
            exact this
          subst hh
          go_wp2_with fail
          go_quiet (fail)
          go_wp2
          go_ret2
          exact ⟨rfl, below_draws HM.out.2 _⟩
        | true =>
          go_wp2_with fail
          refine C2.out.mono ?_
          rintro e w3 ⟨rfl, rfl⟩
          cases q with
          | true =>
            have hh : Q = (5, st) := by
              have h1 : bd = 5 := by rw [← HBD.out]; exact (if_neg (fun h => Bool.noConfusion h.2)).trans (if_pos (Or.inl rfl))
              have := HST.out
              rw [h1, if_neg (by decide)] at this
              exact this
            subst hh
            go_wp2_with fail
            go_quiet (fail)
            go_wp2
            go_ret2
            exact ⟨rfl, below_draws HM.out.2 _⟩
          | false =>
            cases rt with
            | true =>
              have hh : Q = (5, st) := by
                have h1 : bd = 5 := by rw [← HBD.out]; exact (if_neg (fun h => Bool.noConfusion h.2)).trans (if_pos (Or.inr rfl))
                have := HST.out
                rw [h1, if_neg (by decide)] at this
                exact this
              subst hh
              go_wp2_with fail
              go_quiet (fail)
              go_wp2
              go_ret2
              exact ⟨rfl, below_draws HM.out.2 _⟩
            | false =>
              have hh : ckGo l R (l.drop (t + 1)) (t + 1) = Q := by
                have h1 : bd = 0 := by rw [← HBD.out]; exact (if_neg (fun h => Bool.noConfusion h.2)).trans (if_neg (by decide))
                have := HST.out
                rw [h1, if_pos rfl] at this
                exact this.symm
              have HH := Lib.hid hh
              clear hh
              go_wp2_with fail
              go_roundw
              case rel => exact ⟨t + 1, by omega, by go_num, HM.out.1, HH.out⟩
              case measure => simp [intOf]; omega
      case neg =>
        go_wp2_with fail
        refine C2.out.mono ?_
        rintro e w3 ⟨rfl, rfl⟩
        cases q with
        | true =>
          have hh : Q = (5, st) := by
            have h1 : bd = 5 := by rw [← HBD.out]; exact (if_neg (fun h => h4 h.1)).trans (if_pos (Or.inl rfl))
            have := HST.out
            rw [h1, if_neg (by decide)] at this
            exact this
          subst hh
          go_wp2_with fail
          go_quiet (fail)
          go_wp2
          go_ret2
          exact ⟨rfl, below_draws HM.out.2 _⟩
        | false =>
          cases rt with
          | true =>
            have hh : Q = (5, st) := by
              have h1 : bd = 5 := by rw [← HBD.out]; exact (if_neg (fun h => h4 h.1)).trans (if_pos (Or.inr rfl))
              have := HST.out
              rw [h1, if_neg (by decide)] at this
              exact this
            subst hh
            go_wp2_with fail
            go_quiet (fail)
            go_wp2
            go_ret2
            exact ⟨rfl, below_draws HM.out.2 _⟩
          | false =>
            have hh : ckGo l R (l.drop (t + 1)) (t + 1) = Q := by
              have h1 : bd = 0 := by rw [← HBD.out]; exact (if_neg (fun h => h4 h.1)).trans (if_neg (by decide))
              have := HST.out
              rw [h1, if_pos rfl] at this
              exact this.symm
            have HH := Lib.hid hh
            clear hh
            go_wp2_with fail
            go_roundw
            case rel => exact ⟨t + 1, by omega, by go_num, HM.out.1, HH.out⟩
            case measure => simp [intOf]; omega
    · obtain rfl : t = n := by omega
      have hh : Q = (0, 0) := by
        have := HQ1.out.2
        rw [List.drop_of_length_le (by rw [HL.out.len]; exact Nat.le_refl _), ckGo] at this
        exact this.symm
      subst hh
      go_wp2_with fail
      go_ret2
      exact ⟨rfl, below_step H2.out.2.2.1 HQ1.out.1⟩
/-- The numbers so far, and the next one. -/
def nbS (l : List Gn) (n : Nat) (s : List Int × Nat) (i : Nat) (x : Gn) : List Int × Nat :=
  if x.kind = 4 then (s.1.set i (s.1.getD (((tgtF l n (i : Int)).getD 0).toNat) 0), s.2) else (s.1.set i (s.2 : Int), s.2 + 1)
def nbGo (l : List Gn) (n : Nat) : List Gn → Nat → List Int × Nat → List Int × Nat
  | [], _, s => s
  | x :: t, i, s => nbGo l n t (i + 1) (nbS l n s i x)
def nbrF (l : List Gn) : List Int := (nbGo l l.length l 0 (List.replicate l.length 0, 0)).1
theorem nbGo_step {l : List Gn} {n t : Nat} {s : List Int × Nat} {x : Gn} (hx : l[t]? = some x) : nbGo l n (l.drop t) t s = nbGo l n (l.drop (t + 1)) (t + 1) (nbS l n s t x) := by
  have ht := (List.getElem?_eq_some_iff.1 hx).1
  have he : l[t] = x := by rw [List.getElem?_eq_getElem ht] at hx; injection hx
  rw [List.drop_eq_getElem_cons ht, he, nbGo]
theorem tgt_lt {l : List Gn} {n : Nat} (hn : l.length = n) (h0 : 0 < n) (hn2 : n ≤ 1000000) (k : Int) : 0 ≤ (tgtF l n k).getD 0 ∧ (tgtF l n k).getD 0 < (n : Int) := by
  cases h : tgtF l n k with
  | none => exact ⟨Int.le_refl _, by show (0 : Int) < n; omega⟩
  | some c =>
    unfold tgtF at h
    split at h
    · split at h
      · obtain ⟨_, h1, h2, _⟩ := ancF_wf h (by omega)
        exact ⟨h1, by show c < (n : Int); omega⟩
      · cases h
    · cases h
set_option maxHeartbeats 8000000 in
theorem numbered_at {W : World} {A : Option Addr} {n cap : Nat} {l : List Gn} (hL : GL W A n cap l) (hT : TxG l) (hn : n ≤ 1000000) :
    Calls Tryz.prog 15 #[.slice A n cap] W fun e w' => ∃ b, e = .returned (.slice (some ⟨b, 0, none⟩) n n) ∧ W.heap.size ≤ b ∧ IntBox w' b (nbrF l) ∧ (nbrF l).length = n ∧ Below W.heap.size W w' := by
  have hle := hL.le
  have hmx := hL.max
  obtain ⟨Q, hQ⟩ : ∃ z, nbrF l = z := ⟨_, rfl⟩
  rw [hQ]
  have CT := Lib.hid (targets_at hL hT hn)
  have HL := Lib.hid hL
  have HT := Lib.hid hT
  have HQ0 := Lib.hid hQ
  clear hL hT hQ
  go_enter Tryz.func15, Tryz.ntmps15
  go_wp2_with fail
  refine CT.out.mono ?_
  clear CT
  rintro e W0 ⟨B, m, rfl, hB, hm, hmap, hb0⟩
  obtain ⟨W1, hW1⟩ : ∃ z, W0.alloc (.cells ((List.replicate n (0 : Int)).map (Value.int .i64)).toArray 3) = z := ⟨_, rfl⟩
  obtain ⟨b, hb⟩ : ∃ z, W0.heap.size = z := ⟨_, rfl⟩
  have hmk := run_make_ints n hn W0
  rw [hW1, hb] at hmk
  have hbx : IntBox W1 b (List.replicate n 0) := by unfold IntBox; rw [← hW1, ← hb]; exact heap_alloc_new W0 _
  have hb1 : Below W0.heap.size W0 W1 := by rw [← hW1]; exact (Below.refl _ _).alloc (Nat.le_refl _) _
  have H0 : Hid (IntBox W1 b (List.replicate n 0) ∧ MapI W1 B m (tgtF l n) ∧ Below W.heap.size W W1 ∧ W.heap.size ≤ b ∧ B ≠ b) := ⟨hbx, hmap.below hb1, below_step hb0 hb1, by have := hb0.size; omega, by
    obtain ⟨D, h1, _⟩ := hmap
    have := h1.lt
    omega⟩
  clear hmap hb0 hbx hb1 hb hW1 hB hm
  go_upto_region 3 with fail
  clear hmk
  go_wp2_with fail
  go_loopw [5, 15] (fun u v V => ∃ (t : Nat) (s : List Int × Nat), t ≤ n ∧ u = .int .i64 (s.2 : Int) ∧ v = .int .i64 (t : Int) ∧ s.2 ≤ t ∧ s.1.length = n ∧ Hid (IntBox V b s.1 ∧ (∀ z ∈ s.1, 0 ≤ z ∧ z ≤ (n : Int)) ∧ (nbGo l n (l.drop t) t s).1 = Q ∧ MapI V B m (tgtF l n) ∧ Below W.heap.size W V)) (fun _ v _ => n - (intOf v).toNat)
  case atStart => exact ⟨0, (List.replicate n 0, 0), Nat.zero_le _, rfl, rfl, Nat.le_refl _, by simp, H0.out.1, fun z hz => by rw [(List.mem_replicate.1 hz).2]; omega, by rw [List.drop_zero, ← HQ0.out]; unfold nbrF; rw [HL.out.len], H0.out.2.1, H0.out.2.2.1⟩
  case round =>
    obtain ⟨t, ⟨es, nx⟩, ht, rfl, rfl, hnx, hes, HR⟩ := hrel
    simp only at hnx hes HR
    obtain ⟨V, hV⟩ : ∃ z, z = wr := ⟨_, rfl⟩
    subst hV
    have HQ : Hid (True ∧ Below W.heap.size W V) := ⟨trivial, HR.out.2.2.2.2⟩
    by_cases hlt : t < n
    · have dt : (t : Int) < (n : Int) := by omega
      obtain ⟨x, hx⟩ : ∃ z, l[t]? = some z := ⟨l[t]'(by rw [HL.out.len]; exact hlt), List.getElem?_eq_getElem _⟩
      obtain ⟨g1, o1, rfl, K1, c1, a1, a2, a3, a4, a5⟩ := (HL.out.below HQ.out.2).at_ t x hx
      have x0 := a5 0 _ rfl
      have x1 := a5 1 _ rfl
      have x2 := a5 2 _ rfl
      have x3 := a5 3 _ rfl
      have x4 := a5 4 _ rfl
      have x5 := a5 5 _ rfl
      have x6 := a5 6 _ rfl
      have x7 := a5 7 _ rfl
      have x8 := a5 8 _ rfl
      have x9 := a5 9 _ rfl
      rw [Nat.add_zero] at x0
      obtain ⟨kd, hkd⟩ : ∃ z, x.kind = z := ⟨_, rfl⟩
      obtain ⟨tg, htg⟩ : ∃ z, x.tag = z := ⟨_, rfl⟩
      obtain ⟨an, han⟩ : ∃ z, x.anchor = z := ⟨_, rfl⟩
      obtain ⟨vl, hvl⟩ : ∃ z, x.value = z := ⟨_, rfl⟩
      rw [hkd] at x0
      rw [htg] at x2
      rw [han] at x3
      rw [hvl] at x4
      obtain ⟨hs1, hs2, hs3⟩ := HT.out x (List.mem_of_getElem? hx)
      rw [htg] at hs1
      rw [han] at hs2
      rw [hvl] at hs3
      obtain ⟨V1, hV1⟩ : ∃ z, V.alloc (.cells #[.int .i64 kd, .int .i64 x.style, .string tg, .string an, .string vl, .int .i64 x.st, .int .i64 x.en, .int .i64 x.hd, .int .i64 x.mr, .slice K1 x.kids.length c1] 47) = z := ⟨_, rfl⟩
      have hb1 : Below V.heap.size V V1 := by rw [← hV1]; exact (Below.refl _ _).alloc (Nat.le_refl _) _
      have bx : Box V1 V.heap.size [.int .i64 kd, .int .i64 x.style, .string tg, .string an, .string vl, .int .i64 x.st, .int .i64 x.en, .int .i64 x.hd, .int .i64 x.mr, .slice K1 x.kids.length c1] := by rw [← hV1]; exact Box.new V _
      have y0 := bx.cell 0 _ rfl
      have y2 := bx.cell 2 _ rfl
      have y3 := bx.cell 3 _ rfl
      have y4 := bx.cell 4 _ rfl
      have y5 := bx.cell 5 _ rfl
      have y9 := bx.cell 9 _ rfl
      have hst := nbGo_step (n := n) (s := (es, nx)) hx
      rw [hst] at HR
      unfold nbS at HR
      rw [hkd] at HR
      have hbx1 := HR.out.1.below hb1
      have fb := hbx1.frozen t
      obtain ⟨v0, hv0⟩ : ∃ z, es[t]? = some z := ⟨es[t]'(by rw [hes]; exact hlt), List.getElem?_eq_getElem _⟩
      have ct := hbx1.cell t v0 hv0
      have HM := Lib.hid (And.intro hbx1 (And.intro (HR.out.2.2.2.1.below hb1) (below_step HQ.out.2 hb1)))
      by_cases h4 : kd = 4
      · subst h4
        obtain ⟨k1, k2⟩ := tgt_lt HL.out.len (by omega) hn (t : Int)
        have hlk := mapI_look HM.out.2.1 (t : Int) (wf_small (by omega) (by omega)) false
        simp only [if_neg (show ¬ (false = true) by decide)] at hlk
        obtain ⟨c, hc⟩ : ∃ c : Nat, (tgtF l n (t : Int)).getD 0 = (c : Int) := ⟨((tgtF l n (t : Int)).getD 0).toNat, by omega⟩
        rw [hc] at hlk k2 HR
        rw [if_pos rfl] at HR
        simp only [Int.toNat_natCast] at HR
        have hcn : c < n := by omega
        obtain ⟨vc, hvc⟩ : ∃ z, es[c]? = some z := ⟨es[c]'(by rw [hes]; exact hcn), List.getElem?_eq_getElem _⟩
        have cc := hbx1.cell c vc hvc
        have hgd : es.getD c 0 = vc := by rw [List.getD_eq_getElem?_getD, hvc]; rfl
        rw [hgd] at HR
        have hvb := HR.out.2.1 vc (List.mem_of_getElem? hvc)
        have HN : Hid (IntBox (V1.setCell ⟨b, t, none⟩ (.int .i64 vc)) b (es.set t vc) ∧ (∀ z ∈ es.set t vc, 0 ≤ z ∧ z ≤ (n : Int)) ∧ (nbGo l n (l.drop (t + 1)) (t + 1) (es.set t vc, nx)).1 = Q ∧ MapI (V1.setCell ⟨b, t, none⟩ (.int .i64 vc)) B m (tgtF l n) ∧ Below W.heap.size W (V1.setCell ⟨b, t, none⟩ (.int .i64 vc))) := by
          refine ⟨HM.out.1.set t vc, fun z hz => ?_, HR.out.2.2.1, ?_, HM.out.2.2.setCell (p := ⟨b, t, none⟩) H0.out.2.2.2.1 _⟩
          · rcases List.mem_or_eq_of_mem_set hz with hz | rfl
            · exact HR.out.2.1 z hz
            · exact hvb
          · obtain ⟨D, q1, q2⟩ := HM.out.2.1
            exact ⟨D, q1.kept (grown_store V1 b t _) (fun e => H0.out.2.2.2.2 (by injection e)), q2⟩
        have dc : (c : Int) < (n : Int) := by omega
        clear hx a4 a5 bx hkd htg han hvl hb1 hst hbx1 hv0 hvc hgd hvb HR k1 k2 hc
        go_upto_region 7 with fail
        clear hV1 x0 x1 x2 x3 x4 x5 x6 x7 x8 x9
        go_wp2_with fail
        first
        | (go_roundw
           case rel => exact ⟨t + 1, (es.set t vc, nx), by omega, rfl, by go_num, by show nx ≤ t + 1; omega, by rw [List.length_set]; exact hes, HN.out⟩
           case measure => simp [intOf]; omega)
        | exact ⟨⟨t + 1, (es.set t vc, nx), by omega, rfl, by go_num, by show nx ≤ t + 1; omega, by rw [List.length_set]; exact hes, HN.out⟩, by simp [intOf]; omega⟩
      · have h4' : (kd == 4) = false := beq_eq_false_iff_ne.2 h4
        rw [if_neg h4] at HR
        have HN : Hid (IntBox (V1.setCell ⟨b, t, none⟩ (.int .i64 (nx : Int))) b (es.set t (nx : Int)) ∧ (∀ z ∈ es.set t (nx : Int), 0 ≤ z ∧ z ≤ (n : Int)) ∧ (nbGo l n (l.drop (t + 1)) (t + 1) (es.set t (nx : Int), nx + 1)).1 = Q ∧ MapI (V1.setCell ⟨b, t, none⟩ (.int .i64 (nx : Int))) B m (tgtF l n) ∧ Below W.heap.size W (V1.setCell ⟨b, t, none⟩ (.int .i64 (nx : Int)))) := by
          refine ⟨HM.out.1.set t _, fun z hz => ?_, HR.out.2.2.1, ?_, HM.out.2.2.setCell (p := ⟨b, t, none⟩) H0.out.2.2.2.1 _⟩
          · rcases List.mem_or_eq_of_mem_set hz with hz | rfl
            · exact HR.out.2.1 z hz
            · omega
          · obtain ⟨D, q1, q2⟩ := HM.out.2.1
            exact ⟨D, q1.kept (grown_store V1 b t _) (fun e => H0.out.2.2.2.2 (by injection e)), q2⟩
        clear hx a4 a5 bx hkd htg han hvl hb1 hst hbx1 hv0 HR
        go_upto_region 7 with fail
        clear hV1 x0 x1 x2 x3 x4 x5 x6 x7 x8 x9
        go_wp2_with fail
        go_roundw
        case rel => exact ⟨t + 1, (es.set t (nx : Int), nx + 1), by omega, by go_num, by go_num, by show nx + 1 ≤ t + 1; omega, by rw [List.length_set]; exact hes, HN.out⟩
        case measure => simp [intOf]; omega
    · obtain rfl : t = n := by omega
      go_wp2_with fail
      go_ret
      have := HR.out.2.2.1
      rw [List.drop_of_length_le (by rw [HL.out.len]; exact Nat.le_refl _), nbGo] at this
      simp only at this
      refine ⟨b, rfl, H0.out.2.2.2.1, by rw [← this]; exact HR.out.1, by rw [← this]; exact hes, HQ.out.2⟩
def thK (kd : Int) : Int := if kd = 2 ∨ kd = 3 then kd else 1
theorem thKind_at (kd : Int) (W : World) : Calls Tryz.prog 24 #[.int .i64 kd] W fun e w' => e = .returned (.int .i64 (thK kd)) ∧ W = w' := by
  unfold thK
  by_cases h2 : kd = 2
  · subst h2
    go_enter Tryz.func24, Tryz.ntmps24
    go_wp2_with fail
    go_ret
    exact ⟨rfl, by trivial⟩
  · have e2 : (kd == 2) = false := beq_eq_false_iff_ne.2 h2
    by_cases h3 : kd = 3
    · subst h3
      go_enter Tryz.func24, Tryz.ntmps24
      go_wp2_with fail
      go_ret
      exact ⟨rfl, by trivial⟩
    · have e3 : (kd == 3) = false := beq_eq_false_iff_ne.2 h3
      rw [if_neg (by omega)]
      go_enter Tryz.func24, Tryz.ntmps24
      go_wp2_with fail
      go_ret
      exact ⟨rfl, by trivial⟩
/-- The numbers of a node's Kids. -/
def kidN (es : List Int) : List Int → List Int
  | [] => []
  | k :: ks => if 0 ≤ k ∧ k < (es.length : Int) then es.getD k.toNat 0 :: kidN es ks else kidN es ks
theorem kidN_snoc (es : List Int) : ∀ (ks : List Int) (k : Int), kidN es (ks ++ [k]) = if 0 ≤ k ∧ k < (es.length : Int) then kidN es ks ++ [es.getD k.toNat 0] else kidN es ks
  | [], k => by simp [kidN]
  | q :: ks, k => by
    rw [List.cons_append, kidN, kidN, kidN_snoc es ks k]
    split <;> split <;> rfl
section
variable {P : Program} {ops : Array Oper} {Q : Exit → Act → World → Prop} {md : Region.Mode} {S : World → Prop} {t : Nat}
theorem twpOp_callX {i : Nat} {o : Oper} {f : FuncId} {args : Array Value} {a : Act} {w : World} {K : Act → World → Prop} {C : Ending → World → Prop} (hi : ops[i]? = some o) (hw : Region.wanted o (yielded ops a.tmps) = true) (hr : (execOp a.eval o).run P w = .ok (.enter f args) w)
    (hc : Calls P f args w C) (h : ∀ e w', C e w' → ∃ v, e = .returned v ∧ K (a.put o.dst v) w') : wpOp P ops Q i K a w := by
  unfold wpOp
  simp only [hi, hw, if_true, Oper.wp, hr, Oper.upon]
  refine .inl (hc.mono ?_)
  intro e w' hC
  obtain ⟨v, rfl, hk⟩ := h e w' hC
  exact hk
theorem gate_two {i j n : Nat} {L : Array Bool} {a : Act} {w : World} (hr : Region.ready md ops L = [i, j])
    (h1 : wpOp P ops Q i (fun a' w' => (Shut t (upOne L i) → S w') ∧ wpGate P md ops Q S t n (upOne L i) a' w') a w)
    (h2 : wpOp P ops Q j (fun a' w' => (Shut t (upOne L j) → S w') ∧ wpGate P md ops Q S t n (upOne L j) a' w') a w) : wpGate P md ops Q S t (n + 1) L a w :=
  ⟨fun h0 => (by rw [hr] at h0; cases h0), fun k hk => by
    rw [hr] at hk
    simp only [List.mem_cons, List.not_mem_nil, or_false] at hk
    rcases hk with rfl | rfl
    · exact h1
    · exact h2⟩
end
theorem tmove_exec (o : Oper) (x : Operand) (ho : o.op = .move x) (a : Act) (v : Value) (hx : a.eval x = v) (V : World) : (execOp a.eval o).run Tryz.prog V = .ok (.value v) V := by
  simp [execOp, ho, hx]
theorem tappend_run (a : Act) (o : Oper) (x y : Operand) (t u : TypeId) (ho : o.op = .call { callee := .builtin .append, args := #[x, y], argTypes := #[t, u] }) (v1 v2 v' : Value) (W W' : World) (hrun : (Builtin.append_ #[t, u] o.type #[v1, v2]).run Tryz.prog W = .ok v' W') (hx : a.eval x = v1) (hy : a.eval y = v2) :
    (execOp a.eval o).run Tryz.prog W = .ok (.value v') W' := by
  unfold execOp
  simp only [ho, resolve, invoke, builtin, Sem.run_bind, Sem.run_pure, Result.andThen_ok, List.map_toArray, List.map_cons, List.map_nil, hx, hy, hrun]
theorem tgate_gen {P : Program} {ops : Array Oper} {Q : Exit → Act → World → Prop} {md : Region.Mode} {S : World → Prop} {t n : Nat} {L : Array Bool} {a : Act} {w : World} (h : ∀ a0 : Act, a0 = a → wpGate P md ops Q S t n L a0 w) : wpGate P md ops Q S t n L a w := h a rfl
theorem fieldN_exec (o : Oper) (x : Operand) (j : Nat) (ho : o.op = .fieldAddr 47 x j) (hj : j = 0 ∨ j = 2 ∨ j = 4 ∨ j = 9) (a : Act) (V : World) (g : Nat) (hx : a.eval x = .pointer (some ⟨g, 0, none⟩)) : (execOp a.eval o).run Tryz.prog V = .ok (.value (.pointer (some ⟨g, j, none⟩))) V := by
  unfold execOp
  simp only [ho, hx]
  rcases hj with rfl | rfl | rfl | rfl <;> simp [go_sem]
theorem loadS_exec (o : Oper) (x : Operand) (ho : o.op = .load 9 x) (a : Act) (V : World) (p : Addr) (z : ByteArray) (hx : a.eval x = .pointer (some p)) (hc : V.cell? p = some (.string z)) : (execOp a.eval o).run Tryz.prog V = .ok (.value (.string z)) V := by
  unfold execOp
  simp only [ho, hx]
  simp [go_sem, hc]
theorem buildT_exec (o : Oper) (x y z : Operand) (ho : o.op = .build 38 #[(0, x), (1, y), (2, z)]) (a : Act) (k : Int) (s u : ByteArray) (hx : a.eval x = .int .i64 k) (hy : a.eval y = .string s) (hz : a.eval z = .string u) (V : World) : (execOp a.eval o).run Tryz.prog V = .ok (.value (.agg #[.int .i64 k, .string s, .string u, .slice none 0 0])) V := by
  generalize a.eval = ev at hx hy hz ⊢
  unfold execOp
  simp only [ho]
  simp [go_sem, hx, hy, hz]
theorem allocT_exec (o : Oper) (ho : o.op = .alloc 38) (a : Act) (V : World) : (execOp a.eval o).run Tryz.prog V = .ok (.value (.pointer (some ⟨V.heap.size, 0, none⟩))) (V.alloc (.cells #[.int .i64 0, .string ⟨#[]⟩, .string ⟨#[]⟩, .slice none 0 0] 38)) := by
  unfold execOp
  simp only [ho]
  simp [go_sem]
/-- A thing's block. -/
def ThB (W : World) (g : Nat) (C : List Value) : Prop := W.heap[g]? = some (.cells C.toArray 38)
theorem ThB.lt {W : World} {g : Nat} {C : List Value} (h : ThB W g C) : g < W.heap.size := (Array.getElem?_eq_some_iff.1 h).1
theorem ThB.cell {W : World} {g : Nat} {C : List Value} (h : ThB W g C) (j : Nat) (v : Value) (hj : C[j]? = some v) : W.cell? ⟨g, j, none⟩ = some v := by
  unfold ThB at h
  simp [World.cell?, h, hj]
theorem ThB.frozen {W : World} {g : Nat} {C : List Value} (h : ThB W g C) (j : Nat) : W.frozen? ⟨g, j, none⟩ = false := by
  unfold ThB at h
  simp [World.frozen?, h]
theorem ThB.below {W W' : World} {g : Nat} {C : List Value} (h : ThB W g C) (hb : Below W.heap.size W W') : ThB W' g C := (hb.block g h.lt).trans h
theorem ThB.set {W : World} {g : Nat} {C : List Value} (h : ThB W g C) (j : Nat) (v : Value) : ThB (W.setCell ⟨g, j, none⟩ v) g (C.set j v) := by
  unfold ThB at h ⊢
  simp [World.setCell, Array.getElem?_modify, h]
theorem ThB.other {W : World} {g g' : Nat} {C : List Value} (h : ThB W g C) (hne : g ≠ g') (j : Nat) (v : Value) : ThB (W.setCell ⟨g', j, none⟩ v) g C := (Below.heap_setCell _ _ _ _ hne).trans h
theorem ThB.new (W : World) (C : List Value) : ThB (W.alloc (.cells C.toArray 38)) W.heap.size C := heap_alloc_new W _
theorem storeT_box {V : World} {g j : Nat} {C : List Value} (h : ThB V g C) (hj : j < C.length) (v : Value) (hv : v.oneCell' = true) : (store ⟨g, j, none⟩ v).run Tryz.prog V = .ok () (V.setCell ⟨g, j, none⟩ v) := by
  have hc := h.cell j C[j] (by simp [hj])
  have hz := h.frozen j
  rw [run_store Tryz.prog V _ v _ hv]
  simp [stored, hc, hz]
theorem storeT_exec (o : Oper) (x y : Operand) (ho : o.op = .store 38 x y) (a : Act) (V : World) (g : Nat) (v0 v1 v2 v3 : Value) (hx : a.eval x = .pointer (some ⟨g, 0, none⟩)) (hy : a.eval y = .agg #[v0, v1, v2, v3]) (hone : ∀ v ∈ [v0, v1, v2, v3], v.oneCell' = true) (C : List Value) (hl : C.length = 4) (h : ThB V g C) :
    (execOp a.eval o).run Tryz.prog V = .ok .skip ((((V.setCell ⟨g, 0, none⟩ v0).setCell ⟨g, 1, none⟩ v1).setCell ⟨g, 2, none⟩ v2).setCell ⟨g, 3, none⟩ v3) := by
  match C, hl with
  | [d0, d1, d2, d3], _ =>
    have s0 := storeT_box (j := 0) h (by simp) v0 (hone _ (by simp))
    have h0 := h.set 0 v0
    have s1 := storeT_box (j := 1) h0 (by simp) v1 (hone _ (by simp))
    have h1 := h0.set 1 v1
    have s2 := storeT_box (j := 2) h1 (by simp) v2 (hone _ (by simp))
    have h2 := h1.set 2 v2
    have s3 := storeT_box (j := 3) h2 (by simp) v3 (hone _ (by simp))
    unfold execOp
    simp only [ho, hx, hy]
    simp [go_sem, s0, s1, s2, s3]
theorem ThB.set4 {V : World} {g : Nat} {C : List Value} (h : ThB V g C) (hl : C.length = 4) (v0 v1 v2 v3 : Value) : ThB ((((V.setCell ⟨g, 0, none⟩ v0).setCell ⟨g, 1, none⟩ v1).setCell ⟨g, 2, none⟩ v2).setCell ⟨g, 3, none⟩ v3) g [v0, v1, v2, v3] := by
  have := (((h.set 0 v0).set 1 v1).set 2 v2).set 3 v3
  match C, hl with
  | [c0, c1, c2, c3], _ => simpa using this
theorem allocT_at (o : Oper) (ho : o.op = .alloc 38) (a : Act) (V : World) (g : Nat) (hg : V.heap.size = g) : (execOp a.eval o).run Tryz.prog V = .ok (.value (.pointer (some ⟨g, 0, none⟩))) (V.alloc (.cells #[.int .i64 0, .string ⟨#[]⟩, .string ⟨#[]⟩, .slice none 0 0] 38)) := by
  rw [allocT_exec o ho a V, hg]
theorem fieldT3_exec (o : Oper) (x : Operand) (ho : o.op = .fieldAddr 38 x 3) (a : Act) (V : World) (g : Nat) (hx : a.eval x = .pointer (some ⟨g, 0, none⟩)) : (execOp a.eval o).run Tryz.prog V = .ok (.value (.pointer (some ⟨g, 3, none⟩))) V := by
  unfold execOp
  simp only [ho, hx]
  simp [go_sem]
theorem ixI_exec (o : Oper) (x y : Operand) (ho : o.op = .indexAddr 36 x y) (a : Act) (V : World) (g m c j : Nat) (hx : a.eval x = .slice (some ⟨g, 0, none⟩) m c) (hy : a.eval y = .int .i64 (j : Int)) (hj : j < m) :
    (execOp a.eval o).run Tryz.prog V = .ok (.value (.pointer (some ⟨g, j, none⟩))) V := by
  have d1 : (j : Int) < (m : Int) := by omega
  unfold execOp
  simp only [ho, hx, hy]
  simp [go_sem, d1]
theorem loadSl_exec (o : Oper) (x : Operand) (ho : o.op = .load 36 x) (a : Act) (V : World) (p : Addr) (A : Option Addr) (m c : Nat) (hx : a.eval x = .pointer (some p)) (hc : V.cell? p = some (.slice A m c)) : (execOp a.eval o).run Tryz.prog V = .ok (.value (.slice A m c)) V := by
  unfold execOp
  simp only [ho, hx]
  simp [go_sem, hc]
theorem bldI_exec (o : Oper) (x : Operand) (ho : o.op = .buildSlice 36 1 #[(0, x)]) (a : Act) (z : Int) (hx : a.eval x = .int .i64 z) (V : World) :
    (execOp a.eval o).run Tryz.prog V = .ok (.value (.slice (some ⟨V.heap.size, 0, none⟩) 1 1)) (V.alloc (.cells #[.int .i64 z] 3)) := by
  generalize a.eval = ev at hx ⊢
  unfold execOp
  simp only [ho]
  simp [go_sem, hx]
theorem storeSl_exec (o : Oper) (x y : Operand) (ho : o.op = .store 36 x y) (a : Act) (V : World) (g : Nat) (A : Option Addr) (m c : Nat) (u : Value) (hx : a.eval x = .pointer (some ⟨g, 3, none⟩)) (hy : a.eval y = .slice A m c) (hc : V.cell? ⟨g, 3, none⟩ = some u) (hz : V.frozen? ⟨g, 3, none⟩ = false) :
    (execOp a.eval o).run Tryz.prog V = .ok .skip (V.setCell ⟨g, 3, none⟩ (.slice A m c)) := by
  unfold execOp
  simp only [ho, hx, hy]
  simp [go_sem, hc, hz]
theorem thKind_run (a : Act) (o : Oper) (x : Operand) (T : Array TypeId) (ho : o.op = .call { callee := .value (.func 24), args := #[x], argTypes := T }) (vx : Value) (hx : a.eval x = vx) (w : World) :
    (execOp a.eval o).run Tryz.prog w = .ok (.enter 24 #[vx]) w := by
  have hn : (Tryz.f24.name == "runtime.NumGoroutine") = false := by kernel_rfl
  have hb : Tryz.f24.body.isNone = false := by kernel_rfl
  have hf : a.eval (.func 24) = .func (.func 24) #[] #[] := rfl
  have hn' : ¬ (Tryz.f24.name = "runtime.NumGoroutine") := by simpa using hn
  have hb' : ¬ (Tryz.f24.body = none) := by
    intro h
    rw [h] at hb
    cases hb
  unfold execOp
  simp [ho, resolve, Deferred.ofValue, hf, hx, invoke, callFunc, run_program, Tryz.func24]
  rw [if_neg hn', if_neg hb']
set_option maxHeartbeats 8000000 in
theorem thing_at {W : World} {x : Gn} {K : Option Addr} {kl kc b n : Nat} {es : List Int} (hk : RdC W K (ki x.kids)) (hkl : x.kids.length = kl) (hkl2 : kl ≤ 1000000) (hes : IntBox W b es) (hel : es.length = n) (hn : n ≤ 1000000) :
    Calls Tryz.prog 16 #[.agg #[.int .i64 x.kind, .int .i64 x.style, .string x.tag, .string x.anchor, .string x.value, .int .i64 x.st, .int .i64 x.en, .int .i64 x.hd, .int .i64 x.mr, .slice K kl kc], .slice (some ⟨b, 0, none⟩) n n] W fun e w' => ∃ A m c, e = .returned (.agg #[.int .i64 (thK x.kind), .string x.tag, .string x.value, .slice A m c]) ∧ w'.ownsRow W.heap.size 3 1 (.slice A m c) m (ki (kidN es x.kids)) ∧ Below W.heap.size W w' := by
  obtain ⟨kd, hkd⟩ : ∃ z, x.kind = z := ⟨_, rfl⟩
  obtain ⟨tg, htg⟩ : ∃ z, x.tag = z := ⟨_, rfl⟩
  obtain ⟨vl, hvl⟩ : ∃ z, x.value = z := ⟨_, rfl⟩
  rw [hkd, htg, hvl]
  obtain ⟨S, hS⟩ : ∃ z, W.heap.size = z := ⟨_, rfl⟩
  obtain ⟨W1, hW1⟩ : ∃ z, W.alloc (.cells #[.int .i64 kd, .int .i64 x.style, .string tg, .string x.anchor, .string vl, .int .i64 x.st, .int .i64 x.en, .int .i64 x.hd, .int .i64 x.mr, .slice K kl kc] 47) = z := ⟨_, rfl⟩
  have s1 : W1.heap.size = S + 1 := by rw [← hW1, ← hS]; simp
  have hb1 : Below W.heap.size W W1 := by rw [← hW1]; exact (Below.refl _ _).alloc (Nat.le_refl _) _
  obtain ⟨W2, hW2⟩ : ∃ z, W1.alloc (.cells #[.int .i64 0, .string ⟨#[]⟩, .string ⟨#[]⟩, .slice none 0 0] 38) = z := ⟨_, rfl⟩
  have s2 : W2.heap.size = S + 2 := by rw [← hW2]; simp [s1]
  have hb2 : Below W1.heap.size W1 W2 := by rw [← hW2]; exact (Below.refl _ _).alloc (Nat.le_refl _) _
  have bx : Box W1 S [.int .i64 kd, .int .i64 x.style, .string tg, .string x.anchor, .string vl, .int .i64 x.st, .int .i64 x.en, .int .i64 x.hd, .int .i64 x.mr, .slice K kl kc] := by rw [← hW1, ← hS]; exact Box.new W _
  have x0 := (bx.below hb2).cell 0 _ rfl
  have x2 := (bx.below hb2).cell 2 _ rfl
  have x4 := (bx.below hb2).cell 4 _ rfl
  have x9 := (bx.below hb2).cell 9 _ rfl
  have HK := Lib.hid (And.intro hk hkl)
  have HE := Lib.hid (And.intro hes hel)
  have hrb : ThB W2 (S + 1) [.int .i64 0, .string ⟨#[]⟩, .string ⟨#[]⟩, .slice none 0 0] := by rw [← hW2, ← s1]; exact ThB.new W1 _
  have HRB := Lib.hid hrb
  have HB := Lib.hid (below_step hb1 hb2)
  clear hk hkl hes hel hb1 hb2 bx hrb
  go_enter Tryz.func16, Tryz.ntmps16
  go_upto_region 1 with fail
  clear hW1 hW2 hkd htg hvl s1
  go_cut [5] (fun v V => v = .pointer (some ⟨S + 2, 0, none⟩) ∧ Hid (ThB V (S + 2) [.int .i64 (thK kd), .string tg, .string vl, .slice none 0 0] ∧ Below W2.heap.size W2 V))
  case first =>
    go_wp2_with fail
    refine gen_act fun a0 hA => ?_
    have hsz : a0.tmps.size = 38 := by rw [hA]; rfl
    have e2 : a0.eval (.tmp 2) = .pointer (some ⟨S, 0, none⟩) := by rw [hA]; rfl
    have hS : Below W2.heap.size W2 W2.drew := (Below.refl _ _).drew
    refine region_gate (fun U => Below W2.heap.size W2 U) 9 (by kernel_rfl) ?_
    change wpGate _ _ _ _ _ _ 10 _ _ _
    refine gate_take0 (i := 0) (v := (.pointer (some ⟨S, 0, none⟩))) rfl (by rfl) (by kernel_rfl) (by kernel_rfl) (by kernel_rfl) (fun _ _ _ h => h) rfl (fun U => fieldN_exec _ (.tmp 2) 0 rfl (by omega) _ U S (by simp [evp_same, evp_ne, szp, hsz, e2])) hS ?_
    refine gate_take0 (i := 3) (v := (.pointer (some ⟨S, 2, none⟩))) rfl (by rfl) (by kernel_rfl) (by kernel_rfl) (by kernel_rfl) (fun _ _ _ h => h) rfl (fun U => fieldN_exec _ (.tmp 2) 2 rfl (by omega) _ U S (by simp [evp_same, evp_ne, szp, hsz, e2])) hS ?_
    refine gate_take0 (i := 5) (v := (.pointer (some ⟨S, 4, none⟩))) rfl (by rfl) (by kernel_rfl) (by kernel_rfl) (by kernel_rfl) (fun _ _ _ h => h) rfl (fun U => fieldN_exec _ (.tmp 2) 4 rfl (by omega) _ U S (by simp [evp_same, evp_ne, szp, hsz, e2])) hS ?_
    refine gate_take (i := 1) (v := (.int .i64 kd)) rfl (by rfl) (by kernel_rfl) (by kernel_rfl) (by kernel_rfl) (by kernel_rfl) (by kernel_rfl) (fun _ _ _ h => h) rfl (fun U hU => loadI_exec _ (.tmp 8) rfl _ U _ _ (by simp [evp_same, evp_ne, szp, hsz, e2]) (cell_keep hU x0)) hS ?_
    refine gate_take (i := 4) (v := (.string tg)) rfl (by rfl) (by kernel_rfl) (by kernel_rfl) (by kernel_rfl) (by kernel_rfl) (by kernel_rfl) (fun _ _ _ h => h) rfl (fun U hU => loadS_exec _ (.tmp 11) rfl _ U _ _ (by simp [evp_same, evp_ne, szp, hsz, e2]) (cell_keep hU x2)) hS ?_
    refine gate_take (i := 6) (v := (.string vl)) rfl (by rfl) (by kernel_rfl) (by kernel_rfl) (by kernel_rfl) (by kernel_rfl) (by kernel_rfl) (fun _ _ _ h => h) rfl (fun U hU => loadS_exec _ (.tmp 13) rfl _ U _ _ (by simp [evp_same, evp_ne, szp, hsz, e2]) (cell_keep hU x4)) hS ?_
    obtain ⟨U, hU⟩ : ∃ z, W2.drew = z := ⟨_, rfl⟩
    rw [hU] at hS ⊢
    have hUs : U.heap.size = S + 2 := by rw [← hU]; exact s2
    have hbA : Below W2.heap.size W2 (U.alloc (.cells #[.int .i64 0, .string ⟨#[]⟩, .string ⟨#[]⟩, .slice none 0 0] 38)) := hS.alloc hS.size _
    have hth : ThB (U.alloc (.cells #[.int .i64 0, .string ⟨#[]⟩, .string ⟨#[]⟩, .slice none 0 0] 38)) (S + 2) [.int .i64 0, .string ⟨#[]⟩, .string ⟨#[]⟩, .slice none 0 0] := by rw [← hUs]; exact ThB.new U _
    obtain ⟨UA, hUA⟩ : ∃ z, U.alloc (.cells #[.int .i64 0, .string ⟨#[]⟩, .string ⟨#[]⟩, .slice none 0 0] 38) = z := ⟨_, rfl⟩
    rw [hUA] at hbA hth
    have HF : Hid (ThB ((((UA.setCell ⟨S + 2, 0, none⟩ (.int .i64 (thK kd))).setCell ⟨S + 2, 1, none⟩ (.string tg)).setCell ⟨S + 2, 2, none⟩ (.string vl)).setCell ⟨S + 2, 3, none⟩ (.slice none 0 0)) (S + 2) [.int .i64 (thK kd), .string tg, .string vl, .slice none 0 0] ∧ Below W2.heap.size W2 ((((UA.setCell ⟨S + 2, 0, none⟩ (.int .i64 (thK kd))).setCell ⟨S + 2, 1, none⟩ (.string tg)).setCell ⟨S + 2, 2, none⟩ (.string vl)).setCell ⟨S + 2, 3, none⟩ (.slice none 0 0))) :=
      ⟨hth.set4 rfl _ _ _ _, (((hbA.setCell (p := ⟨S + 2, 0, none⟩) (by show W2.heap.size ≤ S + 2; omega) _).setCell (p := ⟨S + 2, 1, none⟩) (by show W2.heap.size ≤ S + 2; omega) _).setCell (p := ⟨S + 2, 2, none⟩) (by show W2.heap.size ≤ S + 2; omega) _).setCell (p := ⟨S + 2, 3, none⟩) (by show W2.heap.size ≤ S + 2; omega) _⟩
    have halloc : ∀ (o : Oper) (a : Act), o.op = .alloc 38 → (execOp a.eval o).run Tryz.prog U = .ok (.value (.pointer (some ⟨S + 2, 0, none⟩))) UA := fun o a ho => by rw [← hUA]; exact allocT_at o ho a U _ hUs
    refine gate_two (i := 2) (j := 8) (by kernel_rfl) ?_ ?_
    · refine twpOp_callX rfl rfl (thKind_run _ _ (.tmp 9) _ rfl (.int .i64 kd) (by simp [evp_same, evp_ne, szp, hsz, e2]) _) (thKind_at kd _) ?_
      rintro e w' ⟨rfl, rfl⟩
      refine ⟨_, rfl, fun _ => hS, ?_⟩
      refine gate_take0 (i := 7) (v := (.agg #[.int .i64 (thK kd), .string tg, .string vl, .slice none 0 0])) rfl (by rfl) (by kernel_rfl) (by kernel_rfl) (by kernel_rfl) (fun _ _ _ h => h) rfl (fun X => buildT_exec _ (.tmp 10) (.tmp 12) (.tmp 14) rfl _ _ _ _ (by simp [evp_same, evp_ne, szp, hsz, e2]) (by simp [evp_same, evp_ne, szp, hsz, e2]) (by simp [evp_same, evp_ne, szp, hsz, e2]) X) hS ?_
      refine gate_one (i := 8) (by kernel_rfl) ?_
      refine wpOp_value rfl rfl (halloc _ _ rfl) ⟨fun _ => hbA, ?_⟩
      refine gate_one (i := 9) (by kernel_rfl) ?_
      refine wpOp_skip rfl rfl (storeT_exec _ (.tmp 5) (.tmp 15) rfl _ UA (S + 2) (.int .i64 (thK kd)) (.string tg) (.string vl) (.slice none 0 0) (by simp [evp_same, evp_ne, szp, hsz, e2]) (by simp [evp_same, evp_ne, szp, hsz, e2]) (by simp [Value.oneCell']) _ rfl hth) ⟨fun h => Bool.noConfusion (show true = false from h), ?_⟩
      refine tgate_gen fun a2 hA0 => ?_
      have hA2 : a2 = ((((((((((a0.put (some 8) (.pointer (some ⟨S, 0, none⟩))).put (some 11) (.pointer (some ⟨S, 2, none⟩))).put (some 13) (.pointer (some ⟨S, 4, none⟩))).put (some 9) (.int .i64 kd)).put (some 12) (.string tg)).put (some 14) (.string vl)).put (some 10) (.int .i64 (thK kd))).put (some 15) (.agg #[.int .i64 (thK kd), .string tg, .string vl, .slice none 0 0])).put (some 5) (.pointer (some ⟨S + 2, 0, none⟩))).put none undef) := hA0
      clear hA0
      refine gate_done (by kernel_rfl) ?_ _
      subst hA2 hA
      clear hsz e2 hS
      simp only [Act.put, List.setIfInBounds_toArray, List.set_cons_zero, List.set_cons_succ]
      go_wp2_with fail
      go_meet
      exact ⟨rfl, HF.out⟩
    · refine wpOp_value rfl rfl (halloc _ _ rfl) ⟨fun _ => hbA, ?_⟩
      refine gate_one (i := 2) (by kernel_rfl) ?_
      refine twpOp_callX rfl rfl (thKind_run _ _ (.tmp 9) _ rfl (.int .i64 kd) (by simp [evp_same, evp_ne, szp, hsz, e2]) _) (thKind_at kd _) ?_
      rintro e w' ⟨rfl, rfl⟩
      refine ⟨_, rfl, fun _ => hbA, ?_⟩
      refine gate_one (i := 7) (by kernel_rfl) ?_
      refine wpOp_value (w' := UA) (v := (.agg #[.int .i64 (thK kd), .string tg, .string vl, .slice none 0 0])) rfl rfl (buildT_exec _ (.tmp 10) (.tmp 12) (.tmp 14) rfl _ _ _ _ (by simp [evp_same, evp_ne, szp, hsz, e2]) (by simp [evp_same, evp_ne, szp, hsz, e2]) (by simp [evp_same, evp_ne, szp, hsz, e2]) UA) ⟨fun _ => hbA, ?_⟩
      refine gate_one (i := 9) (by kernel_rfl) ?_
      refine wpOp_skip rfl rfl (storeT_exec _ (.tmp 5) (.tmp 15) rfl _ UA (S + 2) (.int .i64 (thK kd)) (.string tg) (.string vl) (.slice none 0 0) (by simp [evp_same, evp_ne, szp, hsz, e2]) (by simp [evp_same, evp_ne, szp, hsz, e2]) (by simp [Value.oneCell']) _ rfl hth) ⟨fun h => Bool.noConfusion (show true = false from h), ?_⟩
      refine tgate_gen fun a2 hA0 => ?_
      have hA2 : a2 = ((((((((((a0.put (some 8) (.pointer (some ⟨S, 0, none⟩))).put (some 11) (.pointer (some ⟨S, 2, none⟩))).put (some 13) (.pointer (some ⟨S, 4, none⟩))).put (some 9) (.int .i64 kd)).put (some 12) (.string tg)).put (some 14) (.string vl)).put (some 5) (.pointer (some ⟨S + 2, 0, none⟩))).put (some 10) (.int .i64 (thK kd))).put (some 15) (.agg #[.int .i64 (thK kd), .string tg, .string vl, .slice none 0 0])).put none undef) := hA0
      clear hA0
      refine gate_done (by kernel_rfl) ?_ _
      subst hA2 hA
      clear hsz e2 hS
      simp only [Act.put, List.setIfInBounds_toArray, List.set_cons_zero, List.set_cons_succ]
      go_wp2_with fail
      go_meet
      exact ⟨rfl, HF.out⟩
  case rest =>
    obtain ⟨rfl, HC⟩ := hcut
    obtain ⟨V0, hV0⟩ : ∃ z, z = wc := ⟨_, rfl⟩
    subst hV0
    have x9' := cell_keep HC.out.2 x9
    clear x0 x2 x4 x9
    go_wp2_with fail
    go_loopw [19] (fun u V => ∃ (t : Nat) (A : Option Addr) (m c : Nat), t ≤ kl ∧ u = .int .i64 (t : Int) ∧ m ≤ t ∧ Hid (ThB V (S + 2) [.int .i64 (thK kd), .string tg, .string vl, .slice A m c] ∧ V.ownsRow (S + 3) 3 1 (.slice A m c) m (ki (kidN es (x.kids.take t))) ∧ Below W2.heap.size W2 V)) (fun u _ => kl - (intOf u).toNat)
    case atStart => exact ⟨0, none, 0, 0, Nat.zero_le _, rfl, Nat.le_refl _, HC.out.1, by rw [List.take_zero]; exact own_nil _ _ _ _, HC.out.2⟩
    case round =>
      obtain ⟨t, A, m, c, ht, rfl, hmt, HQ⟩ := hrel
      obtain ⟨V, hV⟩ : ∃ z, z = wr := ⟨_, rfl⟩
      subst hV
      by_cases hlt : t < kl
      · have dt : (t : Int) < (kl : Int) := by omega
        obtain ⟨k, hk⟩ : ∃ z, x.kids[t]? = some z := ⟨x.kids[t]'(by rw [HK.out.2]; exact hlt), List.getElem?_eq_getElem _⟩
        have hbV := below_step HB.out HQ.out.2.2
        obtain ⟨kg, ko, rfl, hkc⟩ := (HK.out.1.below hbV).addr (by rw [ki_len, HK.out.2]; omega)
        have ck := hkc t _ (ki_at hk)
        have hts : x.kids.take (t + 1) = x.kids.take t ++ [k] := by rw [List.take_add_one, hk]; rfl
        have hsn := kidN_snoc es (x.kids.take t) k
        rw [← hts, HE.out.2] at hsn
        clear hkc hk hts
        have CW := Lib.hid (cwithin_at V n hn k)
        by_cases hin : 0 ≤ k ∧ k < (n : Int)
        · obtain ⟨q, rfl⟩ : ∃ q : Nat, k = (q : Int) := ⟨k.toNat, by omega⟩
          have hqn : q < n := by omega
          rw [decide_eq_true (show (0 : Int) ≤ (q : Int) by omega), decide_eq_true (show (q : Int) < (n : Int) by omega)] at CW
          rw [if_pos hin, Int.toNat_natCast] at hsn
          obtain ⟨z, hz⟩ : ∃ z, es[q]? = some z := ⟨es[q]'(by rw [HE.out.2]; exact hqn), List.getElem?_eq_getElem _⟩
          have hgd : es.getD q 0 = z := by rw [List.getD_eq_getElem?_getD, hz]; rfl
          rw [hgd] at hsn
          have HSN := Lib.hid hsn
          have cz0 := (HE.out.1.below hbV).cell q z hz
          have hzq := hz
          clear hsn hgd hz
          go_wp2_with fail
          refine CW.out.mono ?_
          rintro e w2 ⟨rfl, rfl⟩
          clear CW ck
          go_upto_region 6 with fail
          have hbd : Below V.heap.size V V.drew := (Below.refl _ _).drew
          obtain ⟨U, hU⟩ : ∃ y, V.drew = y := ⟨_, rfl⟩
          have cz := cell_keep hbd cz0
          have cA := cell_keep hbd (HQ.out.1.cell 3 _ rfl)
          have hthU := HQ.out.1.below hbd
          have hownU := own_below HQ.out.2.1 hbd
          have hbUW := below_step HQ.out.2.2 hbd
          rw [hU] at hbd cz cA hthU hownU hbUW
          have hUsz : S + 3 ≤ U.heap.size := by have := hthU.lt; omega
          obtain ⟨UB, hUB⟩ : ∃ y, U.alloc (.cells #[.int .i64 z] 3) = y := ⟨_, rfl⟩
          have hbB : Below U.heap.size U UB := by rw [← hUB]; exact (Below.refl _ _).alloc (Nat.le_refl _) _
          have hnew : RdC UB (some ⟨U.heap.size, 0, none⟩) [.int .i64 z] := by rw [← hUB]; exact RdC.new rfl (fun j v hv => by simpa using hv)
          obtain ⟨v', UC, hrun, ho, hg, hv⟩ := run_append_rows Tryz.underlying36 int_info rfl (by omega) (by omega) UB (S + 3) _ m _ (own_below hownU hbB) (by have := hbB.size; omega) (some ⟨U.heap.size, 0, none⟩) 1 1 [.int .i64 z] rfl hnew (by intro u hu; simp at hu; subst hu; rfl) (by omega)
          obtain ⟨A', c', rfl, _⟩ := own_form ho
          have hbC : Below (S + 3) UB UC := (Below.refl (S + 3) UB).grown hg (by have := hbB.size; omega) (own_base (own_below hownU hbB))
          have hthC : ThB UC (S + 2) [.int .i64 (thK kd), .string tg, .string vl, .slice A m c] := (hbC.block (S + 2) (by omega)).trans (hthU.below hbB)
          have hbl : Below W2.heap.size W2 (UC.setCell ⟨S + 2, 3, none⟩ (.slice A' (m + 1) c')) := ((below_step hbUW hbB).grown hg (below_step hbUW hbB).size (fun y hy => by have := own_base (own_below hownU hbB) y hy; omega)).setCell (p := ⟨S + 2, 3, none⟩) (by show W2.heap.size ≤ S + 2; omega) _
          have HN : Hid (ThB (UC.setCell ⟨S + 2, 3, none⟩ (.slice A' (m + 1) c')) (S + 2) [.int .i64 (thK kd), .string tg, .string vl, .slice A' (m + 1) c'] ∧ (UC.setCell ⟨S + 2, 3, none⟩ (.slice A' (m + 1) c')).ownsRow (S + 3) 3 1 (.slice A' (m + 1) c') (m + 1) (ki (kidN es (x.kids.take (t + 1)))) ∧ Below W2.heap.size W2 (UC.setCell ⟨S + 2, 3, none⟩ (.slice A' (m + 1) c'))) := by
            refine ⟨hthC.set 3 _, ?_, hbl⟩
            rw [HSN.out, show ki (kidN es (x.kids.take t) ++ [z]) = ki (kidN es (x.kids.take t)) ++ [.int .i64 z] by simp [ki]]
            exact own_setCell ho _ _ (fun y hy => by have := own_base ho y hy; show y ≠ S + 2; omega)
          have hWC : Below W2.heap.size W2 UC := (below_step hbUW hbB).grown hg (below_step hbUW hbB).size (fun y hy => by have := own_base (own_below hownU hbB) y hy; omega)
          have hS : U.cell? ⟨S + 2, 3, none⟩ = some (.slice A m c) ∧ U.cell? ⟨b, q, none⟩ = some (.int .i64 z) := ⟨cA, cz⟩
          have hSB : UB.cell? ⟨S + 2, 3, none⟩ = some (.slice A m c) ∧ UB.cell? ⟨b, q, none⟩ = some (.int .i64 z) := ⟨cell_keep hbB cA, cell_keep hbB cz⟩
          have hSC : UC.cell? ⟨S + 2, 3, none⟩ = some (.slice A m c) ∧ UC.cell? ⟨b, q, none⟩ = some (.int .i64 z) := ⟨hthC.cell 3 _ rfl, (HE.out.1.below (below_step HB.out hWC)).cell q z hzq⟩
          have fzC := hthC.frozen 3
          have HR := Lib.hid hrun
          have HT := Lib.hid hthC
          clear hbl ho hg hv hnew hownU hbUW hthU cz0 hrun hthC hbC hbB
          go_wp2_with fail
          refine gen_act fun a0 hA => ?_
          have hsz : a0.tmps.size = 38 := by rw [hA]; rfl
          have e1 : a0.eval (.tmp 1) = .slice (some ⟨b, 0, none⟩) n n := by rw [hA]; rfl
          have e5 : a0.eval (.tmp 5) = .pointer (some ⟨S + 2, 0, none⟩) := by rw [hA]; rfl
          have e7 : a0.eval (.tmp 7) = .int .i64 (q : Int) := by rw [hA]; rfl
          refine region_gate (fun X => X.cell? ⟨S + 2, 3, none⟩ = some (.slice A m c) ∧ X.cell? ⟨b, q, none⟩ = some (.int .i64 z)) 9 (by kernel_rfl) ?_
          rw [hU]
          change wpGate _ _ _ _ _ _ 10 _ _ _
          refine gate_take0 (i := 0) (v := (.pointer (some ⟨S + 2, 3, none⟩))) rfl (by rfl) (by kernel_rfl) (by kernel_rfl) (by kernel_rfl) (fun _ _ _ h => h) rfl (fun X => fieldT3_exec _ (.tmp 5) rfl _ X (S + 2) (by simp [evp_same, evp_ne, szp, hsz, e1, e5, e7])) hS ?_
          refine gate_take0 (i := 2) (v := (.slice (some ⟨b, 0, none⟩) n n)) rfl (by rfl) (by kernel_rfl) (by kernel_rfl) (by kernel_rfl) (fun _ _ _ h => h) rfl (fun X => tmove_exec _ (.tmp 1) rfl _ _ (by simp [evp_same, evp_ne, szp, hsz, e1, e5, e7]) X) hS ?_
          refine gate_take0 (i := 3) (v := (.int .i64 (q : Int))) rfl (by rfl) (by kernel_rfl) (by kernel_rfl) (by kernel_rfl) (fun _ _ _ h => h) rfl (fun X => tmove_exec _ (.tmp 7) rfl _ _ (by simp [evp_same, evp_ne, szp, hsz, e1, e5, e7]) X) hS ?_
          refine gate_take0 (i := 4) (v := (.pointer (some ⟨b, q, none⟩))) rfl (by rfl) (by kernel_rfl) (by kernel_rfl) (by kernel_rfl) (fun _ _ _ h => h) rfl (fun X => ixI_exec _ (.tmp 29) (.tmp 30) rfl _ X b n n q (by simp [evp_same, evp_ne, szp, hsz, e1, e5, e7]) (by simp [evp_same, evp_ne, szp, hsz, e1, e5, e7]) hqn) hS ?_
          refine gate_take (i := 1) (v := (.slice A m c)) rfl (by rfl) (by kernel_rfl) (by kernel_rfl) (by kernel_rfl) (by kernel_rfl) (by kernel_rfl) (fun _ _ _ h => h) rfl (fun X hX => loadSl_exec _ (.tmp 27) rfl _ X _ A m c (by simp [evp_same, evp_ne, szp, hsz, e1, e5, e7]) hX.1) hS ?_
          refine gate_take (i := 5) (v := (.int .i64 z)) rfl (by rfl) (by kernel_rfl) (by kernel_rfl) (by kernel_rfl) (by kernel_rfl) (by kernel_rfl) (fun _ _ _ h => h) rfl (fun X hX => loadI_exec _ (.tmp 31) rfl _ X _ _ (by simp [evp_same, evp_ne, szp, hsz, e1, e5, e7]) hX.2) hS ?_
          refine gate_one (i := 6) (by kernel_rfl) ?_
          have hbld : ∀ (o : Oper) (a : Act), o.op = .buildSlice 36 1 #[(0, .tmp 32)] → a.eval (.tmp 32) = .int .i64 z → (execOp a.eval o).run Tryz.prog U = .ok (.value (.slice (some ⟨U.heap.size, 0, none⟩) 1 1)) UB := fun o a ho hx => by rw [← hUB]; exact bldI_exec o _ ho a z hx U
          refine wpOp_value rfl rfl (hbld _ _ rfl (by simp [evp_same, evp_ne, szp, hsz, e1, e5, e7])) ⟨fun _ => hSB, ?_⟩
          refine gate_one (i := 7) (by kernel_rfl) ?_
          refine wpOp_value (w' := UC) (v := .slice A' (m + 1) c') rfl rfl (tappend_run _ _ (.tmp 28) (.tmp 33) 36 36 rfl (.slice A m c) (.slice (some ⟨U.heap.size, 0, none⟩) 1 1) _ UB UC HR.out (by simp [evp_same, evp_ne, szp, hsz, e1, e5, e7]) (by simp [evp_same, evp_ne, szp, hsz, e1, e5, e7])) ⟨fun _ => hSC, ?_⟩
          refine gate_one (i := 8) (by kernel_rfl) ?_
          refine wpOp_value (w' := UC) (v := (.pointer (some ⟨S + 2, 3, none⟩))) rfl rfl (fieldT3_exec _ (.tmp 5) rfl _ UC (S + 2) (by simp [evp_same, evp_ne, szp, hsz, e1, e5, e7])) ⟨fun _ => hSC, ?_⟩
          refine gate_one (i := 9) (by kernel_rfl) ?_
          refine wpOp_skip rfl rfl (storeSl_exec _ (.tmp 35) (.tmp 34) rfl _ UC (S + 2) A' (m + 1) c' _ (by simp [evp_same, evp_ne, szp, hsz, e1, e5, e7]) (by simp [evp_same, evp_ne, szp, hsz, e1, e5, e7]) hSC.1 fzC) ⟨fun h => Bool.noConfusion (show true = false from h), ?_⟩
          refine tgate_gen fun a2 hA0 => ?_
          have hA2 : a2 = ((((((((((a0.put (some 27) (.pointer (some ⟨S + 2, 3, none⟩))).put (some 29) (.slice (some ⟨b, 0, none⟩) n n)).put (some 30) (.int .i64 (q : Int))).put (some 31) (.pointer (some ⟨b, q, none⟩))).put (some 28) (.slice A m c)).put (some 32) (.int .i64 z)).put (some 33) (.slice (some ⟨U.heap.size, 0, none⟩) 1 1)).put (some 34) (.slice A' (m + 1) c')).put (some 35) (.pointer (some ⟨S + 2, 3, none⟩))).put none undef) := hA0
          clear hA0
          refine gate_done (by kernel_rfl) ?_ _
          subst hA2 hA
          clear hsz e1 e5 e7 hS hSB hSC
          simp only [Act.put, List.setIfInBounds_toArray, List.set_cons_zero, List.set_cons_succ]
          go_wp2_with fail
          first
          | (go_roundw
             case rel => exact ⟨t + 1, A', m + 1, c', by omega, by go_num, by omega, HN.out⟩
             case measure => simp [intOf]; omega)
          | exact ⟨⟨t + 1, A', m + 1, c', by omega, by go_num, by omega, HN.out⟩, by simp [intOf]; omega⟩
        · have hd : (decide (0 ≤ k) && decide (k < (n : Int))) = false := by
            rw [Bool.and_eq_false_iff, decide_eq_false_iff_not, decide_eq_false_iff_not]
            omega
          rw [hd] at CW
          rw [if_neg hin] at hsn
          have HSN := Lib.hid hsn
          clear hsn hd
          go_wp2_with fail
          refine CW.out.mono ?_
          rintro e w2 ⟨rfl, rfl⟩
          clear CW
          go_wp2_with fail
          go_roundw
          case rel => exact ⟨t + 1, A, m, c, by omega, by go_num, by omega, HQ.out.1, by rw [HSN.out]; exact HQ.out.2.1, HQ.out.2.2⟩
          case measure => simp [intOf]; omega
      · obtain rfl : t = kl := by omega
        have c0 := HQ.out.1.cell 0 _ rfl
        have c1 := HQ.out.1.cell 1 _ rfl
        have c2 := HQ.out.1.cell 2 _ rfl
        have c3 := HQ.out.1.cell 3 _ rfl
        have hr := HRB.out.below HQ.out.2.2
        have d0 := hr.cell 0 _ rfl
        have d1 := hr.cell 1 _ rfl
        have d2 := hr.cell 2 _ rfl
        have d3 := hr.cell 3 _ rfl
        have f0 := hr.frozen 0
        have f1 := hr.frozen 1
        have f2 := hr.frozen 2
        have f3 := hr.frozen 3
        have HR := Lib.hid hr
        clear hr
        go_wp2_with fail
        have hth4 := HR.out.set4 rfl (.int .i64 (thK kd)) (.string tg) (.string vl) (.slice A m c)
        have hW4 : Below W.heap.size W ((((V.setCell ⟨S + 1, 0, none⟩ (.int .i64 (thK kd))).setCell ⟨S + 1, 1, none⟩ (.string tg)).setCell ⟨S + 1, 2, none⟩ (.string vl)).setCell ⟨S + 1, 3, none⟩ (.slice A m c)) := ((((below_step HB.out HQ.out.2.2).setCell (p := ⟨S + 1, 0, none⟩) (by show W.heap.size ≤ S + 1; omega) _).setCell (p := ⟨S + 1, 1, none⟩) (by show W.heap.size ≤ S + 1; omega) _).setCell (p := ⟨S + 1, 2, none⟩) (by show W.heap.size ≤ S + 1; omega) _).setCell (p := ⟨S + 1, 3, none⟩) (by show W.heap.size ≤ S + 1; omega) _
        have hne : ∀ y, Value.ownBlock (.slice A m c) = some y → y ≠ S + 1 := fun y hy => by have := own_base HQ.out.2.1 y hy; omega
        have hown4 : World.ownsRow ((((V.setCell ⟨S + 1, 0, none⟩ (.int .i64 (thK kd))).setCell ⟨S + 1, 1, none⟩ (.string tg)).setCell ⟨S + 1, 2, none⟩ (.string vl)).setCell ⟨S + 1, 3, none⟩ (.slice A m c)) (S + 3) 3 1 (.slice A m c) m (ki (kidN es (x.kids.take t))) := own_setCell (own_setCell (own_setCell (own_setCell HQ.out.2.1 _ _ hne) _ _ hne) _ _ hne) _ _ hne
        obtain ⟨UF, hUF⟩ : ∃ y, ((((V.setCell ⟨S + 1, 0, none⟩ (.int .i64 (thK kd))).setCell ⟨S + 1, 1, none⟩ (.string tg)).setCell ⟨S + 1, 2, none⟩ (.string vl)).setCell ⟨S + 1, 3, none⟩ (.slice A m c)) = y := ⟨_, rfl⟩
        rw [hUF] at hth4 hW4 hown4 ⊢
        rw [List.take_of_length_le (by rw [HK.out.2]; exact Nat.le_refl _)] at hown4
        have e0 := hth4.cell 0 _ rfl
        have e1 := hth4.cell 1 _ rfl
        have e2 := hth4.cell 2 _ rfl
        have e3 := hth4.cell 3 _ rfl
        exact bodyPost_ret (v := .agg #[.int .i64 (thK kd), .string tg, .string vl, .slice A m c]) (by simp [results, Tryz.results16, go_sem, e0, e1, e2, e3]) rfl ⟨A, m, c, rfl, own_lower hown4 (by omega), hW4⟩
/-- A thing of a graph. -/
structure Th where
  kind : Int
  tag : ByteArray
  value : ByteArray
  kids : List Int
def thC (x : Th) (v : Value) : List Value := [.int .i64 x.kind, .string x.tag, .string x.value, v]
abbrev TK := Th × Value
def tksC (P : List TK) : List Value := P.flatMap fun p => thC p.1 p.2
theorem tksC_app (P Q : List TK) : tksC (P ++ Q) = tksC P ++ tksC Q := List.flatMap_append
theorem tksC_at : ∀ (P : List TK) (i j : Nat) (p : TK), P[i]? = some p → j < 4 → (tksC P)[i * 4 + j]? = (thC p.1 p.2)[j]?
  | [], i, j, p, h, _ => by simp at h
  | q :: t, 0, j, p, h, hj => by
    simp at h; subst h
    unfold tksC
    rw [List.flatMap_cons, List.getElem?_append_left (by show 0 * 4 + j < 4; omega)]; simp
  | q :: t, i + 1, j, p, h, hj => by
    simp at h
    have := tksC_at t i j p h hj
    unfold tksC at this ⊢
    rw [List.flatMap_cons, List.getElem?_append_right (by show 4 ≤ (i + 1) * 4 + j; omega)]
    rw [show (i + 1) * 4 + j - (thC q.1 q.2).length = i * 4 + j by show (i + 1) * 4 + j - 4 = _; omega]
    exact this
/-- The things' row, and each thing's Kids, all in memory of our own. -/
structure ThN (B : Nat) (W : World) (v : Value) (P : List TK) : Prop where
  row : W.ownsRow B 38 4 v P.length (tksC P)
  kid : ∀ (i : Nat) (p : TK), P[i]? = some p → W.ownsRow B 3 1 p.2 p.1.kids.length (ki p.1.kids)
  off : ∀ (i : Nat) (p : TK) (k : Nat), P[i]? = some p → p.2.ownBlock = some k → v.ownBlock ≠ some k
theorem ThN.below {B : Nat} {W W' : World} {v : Value} {P : List TK} (h : ThN B W v P) (hb : Below W.heap.size W W') : ThN B W' v P :=
  ⟨own_below h.row hb, fun i p hp => own_below (h.kid i p hp) hb, h.off⟩
theorem ThN.nil (B : Nat) (W : World) : ThN B W (.slice none 0 0) [] := ⟨own_nil W B 4 _, fun i p h => by simp at h, fun i p k h => by simp at h⟩
/-- A list of things in memory, looked at. -/
structure TL (W : World) (A : Option Addr) (n cap : Nat) (T : List Th) : Prop where
  len : T.length = n
  le : n ≤ cap
  max : cap ≤ 9223372036854775807
  at_ : ∀ (i : Nat) (x : Th), T[i]? = some x → ∃ g, A = some ⟨g, 0, none⟩ ∧ ∃ K c, x.kids.length ≤ c ∧ RdC W K (ki x.kids) ∧ ∀ (j : Nat) (u : Value), (thC x (.slice K x.kids.length c))[j]? = some u → W.cell? ⟨g, i * 4 + j, none⟩ = some u
theorem TL.below {W W' : World} {A : Option Addr} {n cap : Nat} {T : List Th} (h : TL W A n cap T) (hb : Below W.heap.size W W') : TL W' A n cap T :=
  ⟨h.len, h.le, h.max, fun i x hx => by obtain ⟨g, e, K, c, q1, q2, q3⟩ := h.at_ i x hx; exact ⟨g, e, K, c, q1, q2.below hb, fun j u hu => cell_keep hb (q3 j u hu)⟩⟩
theorem ThN.tl {B n cap : Nat} {W : World} {A : Option Addr} {P : List TK} (h : ThN B W (.slice A n cap) P) (hn : P.length = n) : TL W A n cap (P.map Prod.fst) := by
  have hrow := h.row
  rw [hn] at hrow
  obtain ⟨A', cap', e, h1, h2, _⟩ := own_form hrow
  simp only [Value.slice.injEq, true_and] at e
  obtain ⟨rfl, rfl⟩ := e
  refine ⟨by rw [List.length_map]; exact hn, h1, h2, fun i x hx => ?_⟩
  rw [List.getElem?_map, Option.map_eq_some_iff] at hx
  obtain ⟨p, hp, rfl⟩ := hx
  have hi := (List.getElem?_eq_some_iff.1 hp).1
  obtain ⟨g, rfl, _⟩ := row_addr hrow (by omega)
  obtain ⟨K, c, e, k1, k2, _⟩ := own_form (h.kid i p hp)
  refine ⟨g, rfl, K, c, k1, by have := RdC.own (e ▸ h.kid i p hp); exact this, fun j u hu => ?_⟩
  rw [← e] at hu
  have hj : j < 4 := (List.getElem?_eq_some_iff.1 hu).1
  rw [hrow.cellAt _ (by omega), tksC_at P i j p hp hj]
  exact hu
theorem thing_info : (Tryz.prog.info? 38).map (fun i => (i.zero, i.size, i.bytes)) = some (some (.agg #[.int .i64 0, .string ⟨#[]⟩, .string ⟨#[]⟩, .slice none 0 0]), 4, 64) := by kernel_rfl
def thOf (es : List Int) (x : Gn) : Th := ⟨thK x.kind, x.tag, x.value, kidN es x.kids⟩
/-- The things of a list's nodes that are no alias. -/
def cmpL (es : List Int) (l : List Gn) : List Th := (l.filter fun x => x.kind != 4).map (thOf es)
theorem cmpL_snoc (es : List Int) (l : List Gn) (x : Gn) : cmpL es (l ++ [x]) = if x.kind = 4 then cmpL es l else cmpL es l ++ [thOf es x] := by
  unfold cmpL
  rw [List.filter_append, List.map_append]
  by_cases h : x.kind = 4
  · rw [if_pos h]; simp [h]
  · rw [if_neg h]; simp [h]
def CmpP (W : World) (l : List Gn) (e : Ending) (w' : World) : Prop :=
  ((ckF l).1 ≠ 0 ∧ e = .returned (.tuple #[.slice none 0 0, .int .i64 (ckF l).1]) ∧ Below W.heap.size W w') ∨
  ((ckF l).1 = 0 ∧ ∃ A n cap, e = .returned (.tuple #[.slice A n cap, .int .i64 0]) ∧ TL w' A n cap (cmpL (nbrF l) l) ∧ Below W.heap.size W w')
set_option maxHeartbeats 16000000 in
theorem compose_at {W : World} {A : Option Addr} {n cap : Nat} {l : List Gn} (hL : GL W A n cap l) (hT : TxG l) (hS : Small l) (hn : n ≤ 1000000) :
    Calls Tryz.prog 8 #[.slice A n cap] W (CmpP W l) := by
  have hle := hL.le
  have hmx := hL.max
  have CC := Lib.hid (ccheck_at hL hT hS hn)
  have CN : Hid (∀ V, Below W.heap.size W V → Calls Tryz.prog 15 #[.slice A n cap] V fun e w' => ∃ b, e = .returned (.slice (some ⟨b, 0, none⟩) n n) ∧ V.heap.size ≤ b ∧ IntBox w' b (nbrF l) ∧ (nbrF l).length = n ∧ Below V.heap.size V w') := fun V hV => numbered_at (hL.below hV) hT hn
  obtain ⟨Q, hQ⟩ : ∃ z, ckF l = z := ⟨_, rfl⟩
  rw [hQ] at CC
  obtain ⟨q1, q2⟩ := Q
  simp only at CC
  have HQ0 := Lib.hid hQ
  have HL := Lib.hid hL
  have HT := Lib.hid hT
  have HS := Lib.hid hS
  clear hL hT hS hQ
  go_enter Tryz.func8, Tryz.ntmps8
  go_wp2_with fail
  refine CC.out.mono ?_
  clear CC
  rintro e W1 ⟨rfl, hb1⟩
  have H1 := Lib.hid hb1
  clear hb1
  by_cases hq : q1 = 0
  · subst hq
    go_wp2_with fail
    refine (CN.out W1 H1.out).mono ?_
    clear CN
    rintro e W2 ⟨b, rfl, hbb, hbx, hel, hb2⟩
    obtain ⟨es, hes⟩ : ∃ z, nbrF l = z := ⟨_, rfl⟩
    rw [hes] at hbx hel
    have H2 : Hid (IntBox W2 b es ∧ es.length = n ∧ Below W.heap.size W W2 ∧ nbrF l = es) := ⟨hbx, hel, below_step H1.out hb2, hes⟩
    clear hbx hel hb2 hes H1 hbb
    go_wp2_with fail
    go_loopw [7, 22] (fun u v V => ∃ (t m : Nat) (A' : Option Addr) (c' : Nat) (P : List TK), t ≤ n ∧ m ≤ t ∧ u = .slice A' m c' ∧ v = .int .i64 (t : Int) ∧ Hid (ThN W2.heap.size V (.slice A' m c') P ∧ P.length = m ∧ P.map Prod.fst = cmpL es (l.take t) ∧ Below W2.heap.size W2 V)) (fun _ v _ => n - (intOf v).toNat)
    case atStart => exact ⟨0, 0, none, 0, [], Nat.zero_le _, Nat.le_refl _, rfl, rfl, ThN.nil _ _, rfl, by rw [List.take_zero]; rfl, Below.refl _ _⟩
    case round =>
      obtain ⟨t, m, A', c', P, ht, hmt, rfl, rfl, HR⟩ := hrel
      obtain ⟨V, hV⟩ : ∃ z, z = wr := ⟨_, rfl⟩
      subst hV
      have HQ : Hid (True ∧ Below W.heap.size W V) := ⟨trivial, below_step H2.out.2.2.1 HR.out.2.2.2⟩
      by_cases hlt : t < n
      · have dt : (t : Int) < (n : Int) := by omega
        obtain ⟨x, hx⟩ : ∃ z, l[t]? = some z := ⟨l[t]'(by rw [HL.out.len]; exact hlt), List.getElem?_eq_getElem _⟩
        obtain ⟨g1, o1, rfl, K1, c1, a1, a2, a3, a4, a5⟩ := (HL.out.below HQ.out.2).at_ t x hx
        have x0 := a5 0 _ rfl
        have x1 := a5 1 _ rfl
        have x2 := a5 2 _ rfl
        have x3 := a5 3 _ rfl
        have x4 := a5 4 _ rfl
        have x5 := a5 5 _ rfl
        have x6 := a5 6 _ rfl
        have x7 := a5 7 _ rfl
        have x8 := a5 8 _ rfl
        have x9 := a5 9 _ rfl
        rw [Nat.add_zero] at x0
        obtain ⟨kd, hkd⟩ : ∃ z, x.kind = z := ⟨_, rfl⟩
        obtain ⟨tg, htg⟩ : ∃ z, x.tag = z := ⟨_, rfl⟩
        obtain ⟨an, han⟩ : ∃ z, x.anchor = z := ⟨_, rfl⟩
        obtain ⟨vl, hvl⟩ : ∃ z, x.value = z := ⟨_, rfl⟩
        obtain ⟨kl, hkl⟩ : ∃ z, x.kids.length = z := ⟨_, rfl⟩
        rw [hkl] at x9 a1
        rw [hkd] at x0
        rw [htg] at x2
        rw [han] at x3
        rw [hvl] at x4
        obtain ⟨hs1, hs2, hs3⟩ := HT.out x (List.mem_of_getElem? hx)
        rw [htg] at hs1
        rw [han] at hs2
        rw [hvl] at hs3
        obtain ⟨V1, hV1⟩ : ∃ z, V.alloc (.cells #[.int .i64 kd, .int .i64 x.style, .string tg, .string an, .string vl, .int .i64 x.st, .int .i64 x.en, .int .i64 x.hd, .int .i64 x.mr, .slice K1 kl c1] 47) = z := ⟨_, rfl⟩
        have hb1 : Below V.heap.size V V1 := by rw [← hV1]; exact (Below.refl _ _).alloc (Nat.le_refl _) _
        have bx : Box V1 V.heap.size [.int .i64 kd, .int .i64 x.style, .string tg, .string an, .string vl, .int .i64 x.st, .int .i64 x.en, .int .i64 x.hd, .int .i64 x.mr, .slice K1 kl c1] := by rw [← hV1]; exact Box.new V _
        have y0 := bx.cell 0 _ rfl
        have y2 := bx.cell 2 _ rfl
        have y3 := bx.cell 3 _ rfl
        have y4 := bx.cell 4 _ rfl
        have y1 := bx.cell 1 _ rfl
        have y5 := bx.cell 5 _ rfl
        have y6 := bx.cell 6 _ rfl
        have y7 := bx.cell 7 _ rfl
        have y8 := bx.cell 8 _ rfl
        have y9 := bx.cell 9 _ rfl
        have hcm := cmpL_snoc es (l.take t) x
        rw [← take_snoc hx, hkd] at hcm
        have hkl2 := (HS.out x (List.mem_of_getElem? hx)).1
        rw [hkl] at hkl2
        have CT := Lib.hid (thing_at (W := V1) (x := x) (K := K1) (kl := kl) (kc := c1) (n := n) (a4.below hb1) hkl hkl2 ((H2.out.1.below HR.out.2.2.2).below hb1) H2.out.2.1 hn)
        rw [hkd, htg, han, hvl] at CT
        have hth : thOf es x = ⟨thK kd, tg, vl, kidN es x.kids⟩ := by unfold thOf; rw [hkd, htg, hvl]
        have HM := Lib.hid (And.intro (HR.out.1.below hb1) (And.intro (below_step HR.out.2.2.2 hb1) (And.intro hcm hth)))
        have hbV1 := Lib.hid (below_step HQ.out.2 hb1)
        clear hx a4 a5 bx hb1 hcm hth hkl
        by_cases h4 : kd = 4
        · subst h4
          have hcm : cmpL es (l.take (t + 1)) = cmpL es (l.take t) := by rw [HM.out.2.2.1, if_pos rfl]
          have HC := Lib.hid hcm
          clear hcm hkd htg han hvl
          go_upto_region 9 with fail
          clear hV1 x0 x1 x2 x3 x4 x5 x6 x7 x8 x9
          go_wp2_with fail
          go_roundw
          case rel => exact ⟨t + 1, m, A', c', P, by omega, by omega, rfl, by go_num, HM.out.1, HR.out.2.1, by rw [HC.out]; exact HR.out.2.2.1, HM.out.2.1⟩
          case measure => simp [intOf]; omega
        · have h4' : (kd == 4) = false := beq_eq_false_iff_ne.2 h4
          have hcm : cmpL es (l.take (t + 1)) = cmpL es (l.take t) ++ [⟨thK kd, tg, vl, kidN es x.kids⟩] := by rw [HM.out.2.2.1, if_neg h4, HM.out.2.2.2]
          have HC := Lib.hid hcm
          clear hcm hkd htg han hvl
          go_upto_region 9 with fail
          clear hV1 x0 x1 x2 x3 x4 x5 x6 x7 x8 x9
          go_wp2_with fail
          refine CT.out.mono ?_
          clear CT
          rintro e V2 ⟨AK, mk, ck, rfl, hk, hb3⟩
          obtain ⟨V3, hV3⟩ : ∃ z, V2.alloc (.cells #[.int .i64 (thK kd), .string tg, .string vl, .slice AK mk ck] 38) = z := ⟨_, rfl⟩
          have hb4 : Below V2.heap.size V2 V3 := by rw [← hV3]; exact (Below.refl _ _).alloc (Nat.le_refl _) _
          have hnew : RdC V3 (some ⟨V2.heap.size, 0, none⟩) [.int .i64 (thK kd), .string tg, .string vl, .slice AK mk ck] := by rw [← hV3]; exact RdC.new rfl (fun j v hv => by simpa using hv)
          have hN3 := (HM.out.1.below hb3).below hb4
          have hrow := hN3.row
          rw [HR.out.2.1] at hrow
          obtain ⟨v', V4, hrun, ho, hg, hv⟩ := run_append_rows Tryz.underlying30 thing_info rfl (by omega) (by omega) V3 W2.heap.size _ m _ hrow (by have := (below_step HM.out.2.1 (below_step hb3 hb4)).size; omega) (some ⟨V2.heap.size, 0, none⟩) 1 1 _ rfl hnew (by intro u hu; simp at hu; rcases hu with rfl | rfl | rfl | rfl <;> rfl) (by omega)
          obtain ⟨A2, c2, rfl, _⟩ := own_form ho
          have hmk : (kidN es x.kids).length = mk := by have := hk.1; rw [ki_len] at this; omega
          have hkb := own_base hk
          have hkl := own_lt hk
          have hvl1 : ∀ k, (Value.slice A' m c').ownBlock = some k → k < V1.heap.size := own_lt (HM.out.1.row)
          have hkid3 := own_below hk hb4
          have HN : Hid (ThN W2.heap.size V4 (.slice A2 (m + 1) c2) (P ++ [((⟨thK kd, tg, vl, kidN es x.kids⟩ : Th), .slice AK mk ck)]) ∧ (P ++ [((⟨thK kd, tg, vl, kidN es x.kids⟩ : Th), Value.slice AK mk ck)]).length = m + 1 ∧ (P ++ [((⟨thK kd, tg, vl, kidN es x.kids⟩ : Th), Value.slice AK mk ck)]).map Prod.fst = cmpL es (l.take (t + 1)) ∧ Below W2.heap.size W2 V4) := by
            have look : ∀ (i : Nat) (p : TK), (P ++ [((⟨thK kd, tg, vl, kidN es x.kids⟩ : Th), Value.slice AK mk ck)])[i]? = some p → P[i]? = some p ∨ p = (⟨thK kd, tg, vl, kidN es x.kids⟩, .slice AK mk ck) := by
              intro i p hp
              by_cases hi : i < P.length
              · rw [List.getElem?_append_left hi] at hp; exact .inl hp
              · rw [List.getElem?_append_right (by omega)] at hp
                have := List.mem_of_getElem? hp
                exact .inr (by simpa using this)
            have hsz1 : V1.heap.size ≤ V2.heap.size := hb3.size
            have hsz2 : V2.heap.size ≤ V3.heap.size := hb4.size
            refine ⟨⟨?_, fun i p hp => ?_, fun i p k hp hk2 => ?_⟩, by simp [HR.out.2.1], by rw [List.map_append, HR.out.2.2.1, HC.out]; rfl, ?_⟩
            · rw [tksC_app, List.length_append, HR.out.2.1]
              exact ho
            · rcases look i p hp with h | rfl
              · exact own_kept (hN3.kid i p h) hg (fun k e e2 => hN3.off i p k h e2 e)
              · show World.ownsRow _ _ _ _ (.slice AK mk ck) (kidN es x.kids).length _
                rw [hmk]
                refine own_lower (own_kept hkid3 hg (fun k e e2 => ?_)) HM.out.2.1.size
                have := hkb k e2
                have := hvl1 k e
                omega
            · intro e
              rcases hv with hv | hv
              · rw [hv] at e
                rcases look i p hp with h | rfl
                · exact hN3.off i p k h hk2 e
                · have := hkb k hk2
                  have := hvl1 k e
                  omega
              · rw [hv] at e
                injection e with e
                rcases look i p hp with h | rfl
                · have := own_lt (hN3.kid i p h) k hk2
                  omega
                · have := own_lt hkid3 k hk2
                  omega
            · exact (below_step HM.out.2.1 (below_step hb3 hb4)).grown hg (below_step HM.out.2.1 (below_step hb3 hb4)).size (fun y hy => own_base HR.out.1.row y hy)
          have HRUN := Lib.hid hrun
          clear hk hb3 hb4 hnew hN3 hrow ho hg hv hrun hmk hkb hkl hvl1 hkid3 y0 y1 y2 y3 y4 y5 y6 y7 y8 y9
          go_wp2_with (at_builtin; refine wpList_append_known rfl _ (.tmp 33) 30 rfl _ (.slice (some ⟨V2.heap.size, 0, none⟩) 1 1) _ _ rfl rfl HRUN.out ?_)
          go_roundw
          case rel => exact ⟨t + 1, m + 1, A2, c2, _, by omega, by omega, rfl, by go_num, HN.out⟩
          case measure => simp [intOf]; omega
      · obtain rfl : t = n := by omega
        go_wp2_with fail
        go_ret2
        refine .inr ⟨by rw [HQ0.out], A', m, c', rfl, ?_, HQ.out.2⟩
        have := HR.out.1.tl HR.out.2.1
        rw [HR.out.2.2.1, List.take_of_length_le (by rw [HL.out.len]; exact Nat.le_refl _)] at this
        rw [H2.out.2.2.2]
        exact this
  · have hq' : (q1 == 0) = false := beq_eq_false_iff_ne.2 hq
    have hq2 : (q1 != 0) = true := bne_iff_ne.2 hq
    have hq3 : decide (q1 = 0) = false := decide_eq_false hq
    clear CN
    go_wp2_with fail
    go_ret2
    exact .inl ⟨by rw [HQ0.out]; exact hq, by rw [HQ0.out]; rfl, H1.out⟩
def cwA : Gn := ⟨2, 0, ⟨#[33, 33, 115, 101, 113]⟩, ⟨#[]⟩, ⟨#[]⟩, 0, 0, 0, 0, [1, 2]⟩
def cwB : Gn := ⟨1, 0, ⟨#[]⟩, ⟨#[97]⟩, ⟨#[98]⟩, 0, 0, 0, 0, []⟩
def cwC : Gn := ⟨4, 0, ⟨#[]⟩, ⟨#[]⟩, ⟨#[97]⟩, 0, 0, 0, 0, []⟩
def cwL : List Gn := [cwA, cwB, cwC]
theorem cwL_ck : (ckF cwL).1 = 0 := by decide +kernel
theorem cwL_cmp : (cmpL (nbrF cwL) cwL).map (fun x => x.kids) = [[1, 1], []] := by decide +kernel
theorem cwL_gl {V V1 V2 : World} {S : Nat} (hS : V.heap.size = S) (h1 : V.alloc (.cells #[.int .i64 1, .int .i64 2] 3) = V1) (h2 : V1.alloc (.cells #[.int .i64 2, .int .i64 0, .string ⟨#[33, 33, 115, 101, 113]⟩, .string ⟨#[]⟩, .string ⟨#[]⟩, .int .i64 0, .int .i64 0, .int .i64 0, .int .i64 0, .slice (some ⟨S, 0, none⟩) 2 2, .int .i64 1, .int .i64 0, .string ⟨#[]⟩, .string ⟨#[97]⟩, .string ⟨#[98]⟩, .int .i64 0, .int .i64 0, .int .i64 0, .int .i64 0, .slice none 0 0, .int .i64 4, .int .i64 0, .string ⟨#[]⟩, .string ⟨#[]⟩, .string ⟨#[97]⟩, .int .i64 0, .int .i64 0, .int .i64 0, .int .i64 0, .slice none 0 0] 47) = V2) :
    GL V2 (some ⟨S + 1, 0, none⟩) 3 3 cwL ∧ Below V.heap.size V V2 ∧ V1.heap.size = S + 1 := by
  have s1 : V1.heap.size = S + 1 := by rw [← h1, ← hS]; simp
  have b1 : Below V.heap.size V V1 := by rw [← h1]; exact (Below.refl _ _).alloc (Nat.le_refl _) _
  have b2 : Below V1.heap.size V1 V2 := by rw [← h2]; exact (Below.refl _ _).alloc (Nat.le_refl _) _
  have r1 : RdC V2 (some ⟨S, 0, none⟩) (ki [1, 2]) := by
    have : RdC V1 (some ⟨S, 0, none⟩) (ki [1, 2]) := by rw [← h1]; exact RdC.new hS.symm (fun k v hv => by simpa [ki] using hv)
    exact this.below b2
  refine ⟨?_, below_step b1 b2, s1⟩
  have hc : ∀ k, V2.cell? ⟨S + 1, k, none⟩ = (gksC [(cwA, .slice (some ⟨S, 0, none⟩) 2 2), (cwB, .slice none 0 0), (cwC, .slice none 0 0)])[k]? := fun k => by
    rw [← h2, ← s1, World.cell?_alloc_mark]
    show (List.toArray _)[k]? = _
    rw [List.getElem?_toArray]
    rfl
  refine lit_gl (P := [(cwA, .slice (some ⟨S, 0, none⟩) 2 2), (cwB, .slice none 0 0), (cwC, .slice none 0 0)]) rfl (by omega) hc (fun i p hp => ?_)
  match i, hp with
  | 0, hp => injection hp with hp; subst hp; exact ⟨some ⟨S, 0, none⟩, rfl, by simp [cwA], fun e => (by cases e), r1⟩
  | 1, hp => injection hp with hp; subst hp; exact ⟨none, rfl, by simp [cwB], fun _ => rfl, RdC.nil _ _⟩
  | 2, hp => injection hp with hp; subst hp; exact ⟨none, rfl, by simp [cwC], fun _ => rfl, RdC.nil _ _⟩
  | i + 3, hp => simp at hp
theorem cwL_tx : TxG cwL := by
  intro x hx
  simp only [cwL, List.mem_cons, List.not_mem_nil, or_false] at hx
  rcases hx with rfl | rfl | rfl <;> refine ⟨?_, ?_, ?_⟩ <;> decide
theorem cwL_sm : Small cwL := by
  intro x hx
  simp only [cwL, List.mem_cons, List.not_mem_nil, or_false] at hx
  rcases hx with rfl | rfl | rfl <;> simp [cwA, cwB, cwC]
set_option maxHeartbeats 16000000 in
theorem cwakes_at (W : World) : Calls Tryz.prog 9 #[] W fun e w' => e = .returned (.bool true) ∧ Below W.heap.size W w' := by
  obtain ⟨S, hS⟩ : ∃ z, W.heap.size = z := ⟨_, rfl⟩
  obtain ⟨X1, hX1⟩ : ∃ z, W.alloc (.cells #[.int .i64 1, .int .i64 2] 3) = z := ⟨_, rfl⟩
  obtain ⟨X2, hX2⟩ : ∃ z, X1.alloc (.cells #[.int .i64 2, .int .i64 0, .string ⟨#[33, 33, 115, 101, 113]⟩, .string ⟨#[]⟩, .string ⟨#[]⟩, .int .i64 0, .int .i64 0, .int .i64 0, .int .i64 0, .slice (some ⟨S, 0, none⟩) 2 2, .int .i64 1, .int .i64 0, .string ⟨#[]⟩, .string ⟨#[97]⟩, .string ⟨#[98]⟩, .int .i64 0, .int .i64 0, .int .i64 0, .int .i64 0, .slice none 0 0, .int .i64 4, .int .i64 0, .string ⟨#[]⟩, .string ⟨#[]⟩, .string ⟨#[97]⟩, .int .i64 0, .int .i64 0, .int .i64 0, .int .i64 0, .slice none 0 0] 47) = z := ⟨_, rfl⟩
  obtain ⟨go1, gb1, gs1⟩ := cwL_gl hS hX1 hX2
  have HC := Lib.hid (compose_at go1 cwL_tx cwL_sm (by omega))
  have HB := Lib.hid gb1
  clear go1 gb1
  go_enter Tryz.func9, Tryz.ntmps9
  go_wp2_with fail
  refine HC.out.mono ?_
  intro e V h
  rcases h with ⟨h, _⟩ | ⟨_, A, n, cap, rfl, hT, hb⟩
  · exact absurd cwL_ck h
  obtain ⟨T, hTe⟩ : ∃ z, cmpL (nbrF cwL) cwL = z := ⟨_, rfl⟩
  have hk := cwL_cmp
  rw [hTe] at hk hT
  match T, hk, hT with
  | [x, y], hk, hT =>
    simp only [List.map_cons, List.map_nil, List.cons.injEq, and_true] at hk
    obtain ⟨hk1, hk2⟩ := hk
    obtain ⟨g, rfl, K, c, k1, k2, k3⟩ := hT.at_ 0 x rfl
    have hn := hT.len
    simp only [List.length_cons, List.length_nil] at hn
    have hn : n = 2 := by omega
    subst hn
    have hle := hT.le
    have hmx := hT.max
    rw [hk1] at k1 k2
    have y3 := k3 3 _ rfl
    rw [hk1] at y3
    simp only [List.length_cons, List.length_nil, Nat.zero_mul, Nat.zero_add] at y3 k1
    have HV := Lib.hid (below_step HB.out hb)
    have HS : Hid (Calls Tryz.prog 17 #[.slice K 2 c, .slice (some ⟨V.heap.size, 0, none⟩) 2 2] (V.alloc (.cells #[.int .i64 1, .int .i64 1] 3)) (AnsB (V.alloc (.cells #[.int .i64 1, .int .i64 1] 3)) (([1, 1] : List Int) = [1, 1]))) :=
      ksameI_at rfl rfl (by omega) (by omega) (k2.below ((Below.refl _ _).alloc (Nat.le_refl _) _)) (RdC.new rfl (fun k v hv => by simpa [ki] using hv))
    clear HC HB hX1 hX2 hS gs1 k2 k3 hT hk1 hk2 hTe hb
    go_wp2_with fail
    refine HS.out.mono ?_
    rintro e V2 ⟨b, rfl, hb, hb2⟩
    obtain rfl : b = true := hb.2 trivial
    have HV2 : Hid (Below W.heap.size W V2) := below_step (HV.out.alloc HV.out.size _) hb2
    clear HS hb hb2
    go_wp2_with fail
    go_ret
    exact ⟨rfl, HV2.out⟩
  | [], hk, _ => simp at hk
  | [_], hk, _ => simp at hk
  | _ :: _ :: _ :: _, hk, _ => simp at hk
end Go.Proofs.YtnecapmnbaemiaaGreatDoor
