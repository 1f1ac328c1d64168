/- Rows of whole numbers, nodes, lists of nodes: are they alike? (slices.Equal, scholiumkeep.Same; tree.sameNode, slices.EqualFunc, tree.Same.) Written by tools/tree/same.py. · Chapter 13: trees in memory, as the laws use them: made, cut out, put in. · Chapter 13: how deep a tree is: the most of its nodes' levels. No program. · Chapter 13: how deep a tree is that was put in a collection, in place of a leaf. No program. · Chapter 13: the two lists that the law on depths writes out, in memory. -/
import Derived.Test.YtcnnbbgfmilblaaMM
set_option linter.unusedSimpArgs false
set_option linter.unusedVariables false
/-! ### TrSame -/
namespace Go.Proofs.Ytcnnbbgfmilblaa
open Go.RowKit
set_option linter.unusedVariables false
set_option linter.unusedSimpArgs false
set_option maxRecDepth 100000

/-- The answer is yes just where p holds. -/
def AnsB (W : World) (p : Prop) (e : Ending) (w' : World) : Prop := ∃ b, e = .returned (.bool b) ∧ (b = true ↔ p) ∧ Below W.heap.size W w'
set_option maxHeartbeats 2000000 in
theorem equalI_at {W : World} {A B : Option Addr} {n c m d : Nat} {ks js : List Int} (hl : ks.length = n) (hm : js.length = m) (hn : n ≤ 1000000) (hn2 : m ≤ 1000000) (ha : RdC W A (ki ks)) (hb : RdC W B (ki js)) :
    Calls Try.prog 76 #[.slice A n c, .slice B m d] W (AnsB W (ks = js)) := by
  by_cases hnm : n = m
  · subst hnm
    have HA := Lib.hid ha
    have HB := Lib.hid hb
    have HL := Lib.hid (And.intro hl hm)
    clear ha hb hl hm
    go_enter Try.func76, Try.ntmps76
    go_wp2_with fail
    go_loopw [13] (fun u V => ∃ k : Nat, k ≤ n ∧ u = .int .i64 (k : Int) ∧ Hid (Below W.heap.size W V ∧ ∀ j, j < k → ks[j]? = js[j]?)) (fun u _ => n - (intOf u).toNat)
    case atStart => exact ⟨0, Nat.zero_le _, rfl, Below.refl _ _, fun j hj => by omega⟩
    case round =>
      obtain ⟨k, hk, rfl, HQ⟩ := hrel
      obtain ⟨V, hV⟩ : ∃ z, z = wr := ⟨_, rfl⟩
      subst hV
      by_cases hlt : k < n
      · have dk : (k : Int) < (n : Int) := by omega
        obtain ⟨x, hx⟩ : ∃ z, ks[k]? = some z := ⟨ks[k]'(by rw [HL.out.1]; exact hlt), List.getElem?_eq_getElem _⟩
        obtain ⟨y, hy⟩ : ∃ z, js[k]? = some z := ⟨js[k]'(by rw [HL.out.2]; exact hlt), List.getElem?_eq_getElem _⟩
        obtain ⟨g, o, rfl, hc⟩ := (HA.out.below HQ.out.1).addr (by rw [ki_len, HL.out.1]; omega)
        obtain ⟨g2, o2, rfl, hc2⟩ := (HB.out.below HQ.out.1).addr (by rw [ki_len, HL.out.2]; omega)
        have c1 := hc k _ (ki_at hx)
        have c2 := hc2 k _ (ki_at hy)
        have HXY := Lib.hid (And.intro hx hy)
        clear hc hc2 hx hy
        by_cases hxy : x = y
        · subst hxy
          go_wp2_with fail
          go_quiet (fail)
          go_wp2
          go_roundw
          case rel =>
            refine ⟨k + 1, by omega, by go_num, below_draws HQ.out.1 _, fun j hj => ?_⟩
            by_cases e : j = k
            · subst e; rw [HXY.out.1, HXY.out.2]
            · exact HQ.out.2 j (by omega)
          case measure => simp [intOf]; omega
        · go_wp2_with fail
          go_quiet (fail)
          go_wp2
          go_ret
          refine ⟨false, rfl, ⟨fun h => (by cases h), fun h => ?_⟩, below_draws HQ.out.1 _⟩
          subst h
          rw [HXY.out.1] at HXY
          exact absurd (by have := HXY.out.2; injection this) hxy
      · obtain rfl : k = n := by omega
        go_wp2
        go_ret
        refine ⟨true, rfl, ⟨fun _ => ?_, fun _ => rfl⟩, HQ.out.1⟩
        apply List.ext_getElem?
        intro j
        by_cases h : j < k
        · exact HQ.out.2 j h
        · rw [List.getElem?_eq_none (by rw [HL.out.1]; omega), List.getElem?_eq_none (by rw [HL.out.2]; omega)]
  · have hne : ¬ ks = js := fun h => hnm (by rw [← hl, ← hm, h])
    have hnm' : ((n : Int) == (m : Int)) = false := by rw [beq_eq_false_iff_ne]; omega
    have hnm2 : ¬ (n : Int) = (m : Int) := by omega
    clear ha hb hl hm
    go_enter Try.func76, Try.ntmps76
    go_wp2
    go_ret
    exact ⟨false, rfl, ⟨fun h => (by cases h), fun h => absurd h hne⟩, Below.refl _ _⟩
set_option maxHeartbeats 2000000 in
theorem ksameI_at {W : World} {A B : Option Addr} {n c m d : Nat} {ks js : List Int} (hl : ks.length = n) (hm : js.length = m) (hn : n ≤ 1000000) (hn2 : m ≤ 1000000) (ha : RdC W A (ki ks)) (hb : RdC W B (ki js)) :
    Calls Try.prog 43 #[.slice A n c, .slice B m d] W (AnsB W (ks = js)) := by
  by_cases hnm : n = m
  · subst hnm
    have HA := Lib.hid ha
    have HB := Lib.hid hb
    have HL := Lib.hid (And.intro hl hm)
    clear ha hb hl hm
    go_enter Try.func43, Try.ntmps43
    go_wp2_with fail
    go_loopw [5] (fun u V => ∃ k : Nat, k ≤ n ∧ u = .int .i64 (k : Int) ∧ Hid (Below W.heap.size W V ∧ ∀ j, j < k → ks[j]? = js[j]?)) (fun u _ => n - (intOf u).toNat)
    case atStart => exact ⟨0, Nat.zero_le _, rfl, Below.refl _ _, fun j hj => by omega⟩
    case round =>
      obtain ⟨k, hk, rfl, HQ⟩ := hrel
      obtain ⟨V, hV⟩ : ∃ z, z = wr := ⟨_, rfl⟩
      subst hV
      by_cases hlt : k < n
      · have dk : (k : Int) < (n : Int) := by omega
        obtain ⟨x, hx⟩ : ∃ z, ks[k]? = some z := ⟨ks[k]'(by rw [HL.out.1]; exact hlt), List.getElem?_eq_getElem _⟩
        obtain ⟨y, hy⟩ : ∃ z, js[k]? = some z := ⟨js[k]'(by rw [HL.out.2]; exact hlt), List.getElem?_eq_getElem _⟩
        obtain ⟨g, o, rfl, hc⟩ := (HA.out.below HQ.out.1).addr (by rw [ki_len, HL.out.1]; omega)
        obtain ⟨g2, o2, rfl, hc2⟩ := (HB.out.below HQ.out.1).addr (by rw [ki_len, HL.out.2]; omega)
        have c1 := hc k _ (ki_at hx)
        have c2 := hc2 k _ (ki_at hy)
        have HXY := Lib.hid (And.intro hx hy)
        clear hc hc2 hx hy
        by_cases hxy : x = y
        · subst hxy
          go_wp2_with fail
          go_quiet (fail)
          go_wp2
          go_roundw
          case rel =>
            refine ⟨k + 1, by omega, by go_num, below_draws HQ.out.1 _, fun j hj => ?_⟩
            by_cases e : j = k
            · subst e; rw [HXY.out.1, HXY.out.2]
            · exact HQ.out.2 j (by omega)
          case measure => simp [intOf]; omega
        · go_wp2_with fail
          go_quiet (fail)
          go_wp2
          go_ret
          refine ⟨false, rfl, ⟨fun h => (by cases h), fun h => ?_⟩, below_draws HQ.out.1 _⟩
          subst h
          rw [HXY.out.1] at HXY
          exact absurd (by have := HXY.out.2; injection this) hxy
      · obtain rfl : k = n := by omega
        go_wp2
        go_ret
        refine ⟨true, rfl, ⟨fun _ => ?_, fun _ => rfl⟩, HQ.out.1⟩
        apply List.ext_getElem?
        intro j
        by_cases h : j < k
        · exact HQ.out.2 j h
        · rw [List.getElem?_eq_none (by rw [HL.out.1]; omega), List.getElem?_eq_none (by rw [HL.out.2]; omega)]
  · have hne : ¬ ks = js := fun h => hnm (by rw [← hl, ← hm, h])
    have hnm' : ((n : Int) == (m : Int)) = false := by rw [beq_eq_false_iff_ne]; omega
    have hnm2 : ¬ (n : Int) = (m : Int) := by omega
    clear ha hb hl hm
    go_enter Try.func43, Try.ntmps43
    go_wp2
    go_ret
    exact ⟨false, rfl, ⟨fun h => (by cases h), fun h => absurd h hne⟩, Below.refl _ _⟩
theorem gstr_ne {p q : ByteArray} (h : ¬ p = q) : (p.toList == q.toList) = false := by
  rw [beq_eq_false_iff_ne]
  intro e
  simp only [Lib.toList_data] at e
  exact h (ByteArray.ext (Array.toList_inj.1 e))
/-- The same node, whatever its style and its places. -/
def SameG (x y : Gn) : Prop := x.kind = y.kind ∧ x.tag = y.tag ∧ x.anchor = y.anchor ∧ x.value = y.value ∧ x.kids = y.kids
theorem SameG.refl (x : Gn) : SameG x x := ⟨rfl, rfl, rfl, rfl, rfl⟩
def SameL (l m : List Gn) : Prop := l.length = m.length ∧ ∀ (i : Nat) (x y : Gn), l[i]? = some x → m[i]? = some y → SameG x y
theorem SameL.refl (l : List Gn) : SameL l l := ⟨rfl, fun i x y h h' => by rw [h] at h'; injection h' with h'; subst h'; exact SameG.refl x⟩
set_option maxHeartbeats 8000000 in
theorem snode_at (x y : Gn) {A B : Option Addr} {n c m d : Nat} {W : World} (hl : x.kids.length = n) (hm : y.kids.length = m) (hn : n ≤ 1000000) (hn2 : m ≤ 1000000) (ha : RdC W A (ki x.kids)) (hb : RdC W B (ki y.kids)) :
    Calls Try.prog 60 #[.agg (gnC x (.slice A n c)).toArray, .agg (gnC y (.slice B m d)).toArray] W (AnsB W (SameG x y)) := by
  obtain ⟨kd, st, tg, an, vl, p1, p2, p3, p4, ks⟩ := x
  obtain ⟨kd', st', tg', an', vl', p1', p2', p3', p4', js⟩ := y
  simp only at hl hm ha hb
  have hS : SameG ⟨kd, st, tg, an, vl, p1, p2, p3, p4, ks⟩ ⟨kd', st', tg', an', vl', p1', p2', p3', p4', js⟩ ↔ kd = kd' ∧ tg = tg' ∧ an = an' ∧ vl = vl' ∧ ks = js := Iff.rfl
  rw [show (gnC ⟨kd, st, tg, an, vl, p1, p2, p3, p4, ks⟩ (.slice A n c)).toArray = #[.int .i64 kd, .int .i64 st, .string tg, .string an, .string vl, .int .i64 p1, .int .i64 p2, .int .i64 p3, .int .i64 p4, .slice A n c] from rfl]
  rw [show (gnC ⟨kd', st', tg', an', vl', p1', p2', p3', p4', js⟩ (.slice B m d)).toArray = #[.int .i64 kd', .int .i64 st', .string tg', .string an', .string vl', .int .i64 p1', .int .i64 p2', .int .i64 p3', .int .i64 p4', .slice B m d] from rfl]
  obtain ⟨W1, hW1⟩ : ∃ W1, W.alloc (.cells #[.int .i64 kd, .int .i64 st, .string tg, .string an, .string vl, .int .i64 p1, .int .i64 p2, .int .i64 p3, .int .i64 p4, .slice A n c] 31) = W1 := ⟨_, rfl⟩
  obtain ⟨W2, hW2⟩ : ∃ W2, W1.alloc (.cells #[.int .i64 kd', .int .i64 st', .string tg', .string an', .string vl', .int .i64 p1', .int .i64 p2', .int .i64 p3', .int .i64 p4', .slice B m d] 31) = W2 := ⟨_, rfl⟩
  have hb1 : Below W.heap.size W W1 := by rw [← hW1]; exact (Below.refl _ _).alloc (Nat.le_refl _) _
  have hb2 : Below W.heap.size W W2 := by rw [← hW2]; exact hb1.alloc hb1.size _
  have b1 : Box W1 W.heap.size [.int .i64 kd, .int .i64 st, .string tg, .string an, .string vl, .int .i64 p1, .int .i64 p2, .int .i64 p3, .int .i64 p4, .slice A n c] := by rw [← hW1]; exact Box.new W _
  have b2 : Box W2 W1.heap.size [.int .i64 kd', .int .i64 st', .string tg', .string an', .string vl', .int .i64 p1', .int .i64 p2', .int .i64 p3', .int .i64 p4', .slice B m d] := by rw [← hW2]; exact Box.new W1 _
  have hs1 : W1.heap.size = W.heap.size + 1 := by rw [← hW1]; simp
  have b1' : Box W2 W.heap.size [.int .i64 kd, .int .i64 st, .string tg, .string an, .string vl, .int .i64 p1, .int .i64 p2, .int .i64 p3, .int .i64 p4, .slice A n c] := b1.below (by rw [← hW2]; exact (Below.refl _ _).alloc (Nat.le_refl _) _)
  rw [hs1] at b2
  have x0 := b1'.cell 0 _ rfl
  have y0 := b2.cell 0 _ rfl
  have x2 := b1'.cell 2 _ rfl
  have y2 := b2.cell 2 _ rfl
  have x3 := b1'.cell 3 _ rfl
  have y3 := b2.cell 3 _ rfl
  have x4 := b1'.cell 4 _ rfl
  have y4 := b2.cell 4 _ rfl
  have x9 := b1'.cell 9 _ rfl
  have y9 := b2.cell 9 _ rfl
  have HB2 := Lib.hid hb2
  have HE : Hid (Calls Try.prog 76 #[.slice A n c, .slice B m d] W2 (AnsB W2 (ks = js))) := equalI_at hl hm hn hn2 (ha.below hb2) (hb.below hb2)
  have HS := Lib.hid hS
  clear hb1 hb2 b1 b2 b1' ha hb hl hm hS
  by_cases h1 : kd = kd'
  · subst h1
    by_cases h2 : tg = tg'
    · subst h2
      by_cases h3 : an = an'
      · subst h3
        by_cases h4 : vl = vl'
        · subst h4
          go_enter Try.func60, Try.ntmps60
          go_wp2_with fail
          refine HE.out.mono ?_
          rintro e w' ⟨b, rfl, hb, hbb⟩
          have HBB := Lib.hid (And.intro hb hbb)
          clear hb hbb
          go_wp2_with fail
          go_ret
          refine ⟨b, rfl, ?_, below_step HB2.out HBB.out.2⟩
          rw [HS.out, HBB.out.1]
          simp
        · have e4 := gstr_ne h4
          go_enter Try.func60, Try.ntmps60
          go_wp2_with fail
          go_ret
          exact ⟨false, rfl, ⟨fun h => (by cases h), fun h => absurd (HS.out.1 h).2.2.2.1 h4⟩, HB2.out⟩
      · have e3 := gstr_ne h3
        go_enter Try.func60, Try.ntmps60
        go_wp2_with fail
        go_ret
        exact ⟨false, rfl, ⟨fun h => (by cases h), fun h => absurd (HS.out.1 h).2.2.1 h3⟩, HB2.out⟩
    · have e2 := gstr_ne h2
      go_enter Try.func60, Try.ntmps60
      go_wp2_with fail
      go_ret
      exact ⟨false, rfl, ⟨fun h => (by cases h), fun h => absurd (HS.out.1 h).2.1 h2⟩, HB2.out⟩
  · have e1 : (kd == kd') = false := by rw [beq_eq_false_iff_ne]; exact h1
    go_enter Try.func60, Try.ntmps60
    go_wp2_with fail
    go_ret
    exact ⟨false, rfl, ⟨fun h => (by cases h), fun h => absurd (HS.out.1 h).1 h1⟩, HB2.out⟩
set_option maxHeartbeats 8000000 in
theorem tsame_at {W : World} {A B : Option Addr} {n c m d : Nat} {l l' : List Gn} (h1 : GL W A n c l) (h2 : GL W B m d l') (hn : n ≤ 1000000) (hn2 : m ≤ 1000000) (hk1 : ∀ x ∈ l, x.kids.length ≤ 1000000) (hk2 : ∀ x ∈ l', x.kids.length ≤ 1000000) :
    Calls Try.prog 59 #[.slice A n c, .slice B m d, .func (.func 60) #[] #[]] W (AnsB W (SameL l l')) := by
  have hl1 := h1.len
  have hl2 := h2.len
  by_cases hnm : n = m
  · subst hnm
    have H1 := Lib.hid h1
    have H2 := Lib.hid h2
    have HK := Lib.hid (And.intro hk1 hk2)
    have HL := Lib.hid (And.intro hl1 hl2)
    clear h1 h2 hk1 hk2 hl1 hl2
    go_enter Try.func59, Try.ntmps59
    go_wp2_with fail
    go_loopw [17] (fun u V => ∃ k : Nat, k ≤ n ∧ u = .int .i64 (k : Int) ∧ Hid (Below W.heap.size W V ∧ ∀ (j : Nat) (x y : Gn), j < k → l[j]? = some x → l'[j]? = some y → SameG x y)) (fun u _ => n - (intOf u).toNat)
    case atStart => exact ⟨0, Nat.zero_le _, rfl, Below.refl _ _, fun j x y hj => by omega⟩
    case round =>
      obtain ⟨k, hk, rfl, HQ⟩ := hrel
      obtain ⟨V, hV⟩ : ∃ z, z = wr := ⟨_, rfl⟩
      subst hV
      by_cases hlt : k < n
      · have dk : (k : Int) < (n : Int) := by omega
        obtain ⟨x, hx⟩ : ∃ z, l[k]? = some z := ⟨l[k]'(by rw [HL.out.1]; exact hlt), List.getElem?_eq_getElem _⟩
        obtain ⟨y, hy⟩ : ∃ z, l'[k]? = some z := ⟨l'[k]'(by rw [HL.out.2]; exact hlt), List.getElem?_eq_getElem _⟩
        obtain ⟨g1, o1, rfl, K1, c1, a1, a2, a3, a4, a5⟩ := (H1.out.below HQ.out.1).at_ k x hx
        obtain ⟨g2, o2, rfl, K2, c2, b1, b2, b3, b4, b5⟩ := (H2.out.below HQ.out.1).at_ k y hy
        have x0 := a5 0 _ rfl
        have x1 := a5 1 _ rfl
        have x2 := a5 2 _ rfl
        have x3 := a5 3 _ rfl
        have x4 := a5 4 _ rfl
        have x5 := a5 5 _ rfl
        have x6 := a5 6 _ rfl
        have x7 := a5 7 _ rfl
        have x8 := a5 8 _ rfl
        have x9 := a5 9 _ rfl
        rw [Nat.add_zero] at x0
        obtain ⟨V1, hV1⟩ : ∃ z, V.alloc (.cells (gnC x (.slice K1 x.kids.length c1)).toArray 31) = z := ⟨_, rfl⟩
        have hb1 : Below V.heap.size V V1 := by rw [← hV1]; exact (Below.refl _ _).alloc (Nat.le_refl _) _
        have y0 := cell_keep hb1 (b5 0 _ rfl)
        have y1 := cell_keep hb1 (b5 1 _ rfl)
        have y2 := cell_keep hb1 (b5 2 _ rfl)
        have y3 := cell_keep hb1 (b5 3 _ rfl)
        have y4 := cell_keep hb1 (b5 4 _ rfl)
        have y5 := cell_keep hb1 (b5 5 _ rfl)
        have y6 := cell_keep hb1 (b5 6 _ rfl)
        have y7 := cell_keep hb1 (b5 7 _ rfl)
        have y8 := cell_keep hb1 (b5 8 _ rfl)
        have y9 := cell_keep hb1 (b5 9 _ rfl)
        rw [Nat.add_zero] at y0
        obtain ⟨V2, hV2⟩ : ∃ z, V1.alloc (.cells (gnC y (.slice K2 y.kids.length c2)).toArray 31) = z := ⟨_, rfl⟩
        have hb2 : Below V1.heap.size V1 V2 := by rw [← hV2]; exact (Below.refl _ _).alloc (Nat.le_refl _) _
        have hbV : Below V.heap.size V V2 := below_step hb1 hb2
        have hs1 : V1.heap.size = V.heap.size + 1 := by rw [← hV1]; simp
        have bx1 : Box V2 V.heap.size (gnC x (.slice K1 x.kids.length c1)) := (by rw [← hV1]; exact Box.new V _ : Box V1 V.heap.size _).below hb2
        have bx2 : Box V2 (V.heap.size + 1) (gnC y (.slice K2 y.kids.length c2)) := by rw [← hs1, ← hV2]; exact Box.new V1 _
        have CN : Hid (∀ U, Below V2.heap.size V2 U → Calls Try.prog 60 #[.agg (gnC x (.slice K1 x.kids.length c1)).toArray, .agg (gnC y (.slice K2 y.kids.length c2)).toArray] U (AnsB U (SameG x y))) := fun U hU =>
          snode_at x y rfl rfl (HK.out.1 x (List.mem_of_getElem? hx)) (HK.out.2 y (List.mem_of_getElem? hy)) ((a4.below hbV).below hU) ((b4.below hbV).below hU)
        have HXY := Lib.hid (And.intro hx (And.intro hy (And.intro bx1 (And.intro bx2 (below_step HQ.out.1 hbV)))))
        have gx : gnC x (.slice K1 x.kids.length c1) = [.int .i64 x.kind, .int .i64 x.style, .string x.tag, .string x.anchor, .string x.value, .int .i64 x.st, .int .i64 x.en, .int .i64 x.hd, .int .i64 x.mr, .slice K1 x.kids.length c1] := rfl
        have gy : gnC y (.slice K2 y.kids.length c2) = [.int .i64 y.kind, .int .i64 y.style, .string y.tag, .string y.anchor, .string y.value, .int .i64 y.st, .int .i64 y.en, .int .i64 y.hd, .int .i64 y.mr, .slice K2 y.kids.length c2] := rfl
        rw [gx] at hV1
        rw [gy] at hV2
        clear hx hy a4 b4 a5 b5 hb1 hb2 hbV bx1 bx2 gx gy
        go_upto_region 7 with fail
        clear hV1 hV2 x0 x1 x2 x3 x4 x5 x6 x7 x8 x9 y0 y1 y2 y3 y4 y5 y6 y7 y8 y9 hs1
        have X0 := HXY.out.2.2.1.cell 0 _ rfl
        have Y0 := HXY.out.2.2.2.1.cell 0 _ rfl
        have X1 := HXY.out.2.2.1.cell 1 _ rfl
        have Y1 := HXY.out.2.2.2.1.cell 1 _ rfl
        have X2 := HXY.out.2.2.1.cell 2 _ rfl
        have Y2 := HXY.out.2.2.2.1.cell 2 _ rfl
        have X3 := HXY.out.2.2.1.cell 3 _ rfl
        have Y3 := HXY.out.2.2.2.1.cell 3 _ rfl
        have X4 := HXY.out.2.2.1.cell 4 _ rfl
        have Y4 := HXY.out.2.2.2.1.cell 4 _ rfl
        have X5 := HXY.out.2.2.1.cell 5 _ rfl
        have Y5 := HXY.out.2.2.2.1.cell 5 _ rfl
        have X6 := HXY.out.2.2.1.cell 6 _ rfl
        have Y6 := HXY.out.2.2.2.1.cell 6 _ rfl
        have X7 := HXY.out.2.2.1.cell 7 _ rfl
        have Y7 := HXY.out.2.2.2.1.cell 7 _ rfl
        have X8 := HXY.out.2.2.1.cell 8 _ rfl
        have Y8 := HXY.out.2.2.2.1.cell 8 _ rfl
        have X9 := HXY.out.2.2.1.cell 9 _ rfl
        have Y9 := HXY.out.2.2.2.1.cell 9 _ rfl
        go_wp2_with fail
        refine (CN.out V2 (Below.refl _ _)).mono ?_
        rintro e V3 ⟨b, rfl, hb, hbb⟩
        have HB := Lib.hid (And.intro hb hbb)
        clear hb hbb X0 X1 X2 X3 X4 X5 X6 X7 X8 X9 Y0 Y1 Y2 Y3 Y4 Y5 Y6 Y7 Y8 Y9
        cases b with
        | true =>
          go_wp2_with fail
          go_roundw
          case rel =>
            refine ⟨k + 1, by omega, by go_num, below_step HXY.out.2.2.2.2 HB.out.2, fun j x' y' hj hx' hy' => ?_⟩
            by_cases e : j = k
            · subst e
              rw [HXY.out.1] at hx'
              rw [HXY.out.2.1] at hy'
              injection hx' with hx'
              injection hy' with hy'
              subst hx' hy'
              exact HB.out.1.1 (by trivial)
            · exact HQ.out.2 j x' y' (by omega) hx' hy'
          case measure => simp [intOf]; omega
        | false =>
          go_wp2_with fail
          go_ret
          refine ⟨false, rfl, ⟨fun h => (by cases h), fun h => ?_⟩, below_step HXY.out.2.2.2.2 HB.out.2⟩
          have := HB.out.1.2 (h.2 k x y HXY.out.1 HXY.out.2.1)
          cases this
      · obtain rfl : k = n := by omega
        go_wp2
        go_ret
        refine ⟨true, rfl, ⟨fun _ => ⟨by rw [HL.out.1, HL.out.2], fun i x y hx hy => HQ.out.2 i x y (by have := (List.getElem?_eq_some_iff.1 hx).1; rw [HL.out.1] at this; exact this) hx hy⟩, fun _ => rfl⟩, HQ.out.1⟩
  · have hne : ¬ SameL l l' := fun h => hnm (by rw [← hl1, ← hl2, h.1])
    have hnm2 : ¬ (n : Int) = (m : Int) := by omega
    clear h1 h2 hl1 hl2 hk1 hk2
    go_enter Try.func59, Try.ntmps59
    go_wp2
    go_ret
    exact ⟨false, rfl, ⟨fun h => (by cases h), fun h => absurd h hne⟩, Below.refl _ _⟩
set_option maxHeartbeats 1000000 in
/-- The same tree, whatever styles and places. -/
theorem treeSame_at {W : World} {A B : Option Addr} {n c m d : Nat} {l l' : List Gn} (h1 : GL W A n c l) (h2 : GL W B m d l') (hn : n ≤ 1000000) (hn2 : m ≤ 1000000) (hk1 : ∀ x ∈ l, x.kids.length ≤ 1000000) (hk2 : ∀ x ∈ l', x.kids.length ≤ 1000000) :
    Calls Try.prog 26 #[.slice A n c, .slice B m d] W (AnsB W (SameL l l')) := by
  have C := Lib.hid (tsame_at h1 h2 hn hn2 hk1 hk2)
  clear h1 h2 hk1 hk2
  go_enter Try.func26, Try.ntmps26
  go_wp2_with fail
  refine C.out.mono ?_
  rintro e w' ⟨b, rfl, hb⟩
  have H := Lib.hid hb
  clear hb
  go_wp2_with fail
  go_ret
  exact ⟨b, rfl, H.out⟩
end Go.Proofs.Ytcnnbbgfmilblaa
/-! ### TrIn -/
namespace Go.Proofs.Ytcnnbbgfmilblaa
open Go.RowKit
set_option linter.unusedVariables false
set_option linter.unusedSimpArgs false
set_option maxRecDepth 100000

section
variable {l : List Gn} {E : Nat → Nat}
theorem GE.kid_ge (h : GE l E) {i : Nat} {x : Gn} (hx : l[i]? = some x) : ∀ (j : Nat) (k : Int), x.kids[j]? = some k → ((i + 1 + j : Nat) : Int) ≤ k
  | 0, k, hk => by
    obtain ⟨q0, q1, _⟩ := h.kid hx hk
    omega
  | j + 1, k, hk => by
    have hj : j < x.kids.length := by have := (List.getElem?_eq_some_iff.1 hk).1; omega
    have hk0 := List.getElem?_eq_getElem hj
    have h1 := GE.kid_ge h hx j _ hk0
    obtain ⟨q0, q1, q2, q3, _⟩ := h.kid hx hk0
    have h2 := q3 k hk
    have h3 := (h.lt q2).1
    omega
theorem GE.small (h : GE l E) (hn : l.length ≤ 1000000) : Small l := by
  intro x hx
  obtain ⟨i, hi⟩ := List.mem_iff_getElem?.1 hx
  constructor
  · rcases Nat.eq_zero_or_pos x.kids.length with e | e
    · omega
    · have hk := List.getElem?_eq_getElem (show x.kids.length - 1 < x.kids.length by omega)
      have h1 := h.kid_ge hi _ _ hk
      obtain ⟨q0, q1, q2, _⟩ := h.kid hi hk
      omega
  · intro k hk
    obtain ⟨j, hj⟩ := List.mem_iff_getElem?.1 hk
    obtain ⟨q0, q1, q2, _⟩ := h.kid hi hj
    omega
end
theorem NewG.out {W w' : World} {l : List Gn} {e : Ending} (h : NewG W l e w') : ∃ A cap, e = .returned (.slice A l.length cap) ∧ l.length ≤ cap ∧ cap ≤ 9223372036854775807 ∧ GL w' A l.length cap l ∧ Below W.heap.size W w' := by
  obtain ⟨A, m, cap, P, rfl, h1, h2, h3, h4, h5, h6⟩ := h
  have hg := h3.gl h4
  rw [h5] at hg
  have hl := hg.len
  subst hl
  exact ⟨A, cap, rfl, h1, h2, hg, h6⟩
/-- A tree that was made: a list in memory. -/
structure TreeIn (W : World) (A : Option Addr) (n cap : Nat) (l : List Gn) (E : Nat → Nat) : Prop where
  gl : GL W A n cap l
  ge : GE l E
theorem TreeIn.below {W W' : World} {A : Option Addr} {n cap : Nat} {l : List Gn} {E : Nat → Nat} (h : TreeIn W A n cap l E) (hb : Below W.heap.size W W') : TreeIn W' A n cap l E := ⟨h.gl.below hb, h.ge⟩
theorem TreeIn.sm {W : World} {A : Option Addr} {n cap : Nat} {l : List Gn} {E : Nat → Nat} (h : TreeIn W A n cap l E) (hn : n ≤ 1000000) : Small l := h.ge.small (by rw [h.gl.len]; exact hn)
theorem TreeIn.kl {W : World} {A : Option Addr} {n cap : Nat} {l : List Gn} {E : Nat → Nat} (h : TreeIn W A n cap l E) (hn : n ≤ 1000000) : ∀ x ∈ l, x.kids.length ≤ 1000000 := fun x hx => (h.sm hn x hx).1
theorem made_tree {w W : World} {A1 A2 : Option Addr} {n1 c1 n2 c2 : Nat} (hp : PlanIn w A1 n1 c1 A2 n2 c2) (hb : Below w.heap.size w W) :
    Calls Try.prog 13 #[.agg #[.slice A1 n1 c1, .slice A2 n2 c2]] W fun e w' => ∃ (g n cap : Nat) (l : List Gn) (E : Nat → Nat), e = .returned (.slice (some ⟨g, 0, none⟩) n cap) ∧ 1 ≤ n ∧ n ≤ 65537 ∧ n ≤ cap ∧ cap ≤ 9223372036854775807 ∧ TreeIn w' (some ⟨g, 0, none⟩) n cap l E ∧ Below W.heap.size W w' := by
  refine (made_at hp hb).mono ?_
  rintro e W1 ⟨g, n, cap, P, rfl, hP, hn, hT, hbb⟩
  have hgl := hP.gl hn
  refine ⟨g, n, cap, (lst P).map gn, tEnd (lst P), rfl, ?_, ?_, hgl.le, hgl.max, ⟨hgl, (ends_of hT.tree).ge⟩, hbb⟩
  · rw [← hn, ← lst_len]; exact hT.pos
  · rw [← hn, ← lst_len]; exact hT.len
theorem loadP_exec (o : Oper) (x : Operand) (ho : o.op = .load 25 x) (a : Act) (V : World) (g : Nat) (v0 v1 : Value) (hx : a.eval x = .pointer (some ⟨g, 0, none⟩)) (c0 : V.cell? ⟨g, 0, none⟩ = some v0) (c1 : V.cell? ⟨g, 1, none⟩ = some v1) : (execOp a.eval o).run Try.prog V = .ok (.value (.agg #[v0, v1])) V := by
  unfold execOp
  simp only [ho, hx]
  simp [go_sem, c0, c1]
theorem made_run (a : Act) (o : Oper) (x : Operand) (T : Array TypeId) (ho : o.op = .call { callee := .value (.func 13), args := #[x], argTypes := T }) (vx : Value) (hx : a.eval x = vx) (w : World) :
    (execOp a.eval o).run Try.prog w = .ok (.enter 13 #[vx]) w := by
  have hn : (Try.f13.name == "runtime.NumGoroutine") = false := by kernel_rfl
  have hb : Try.f13.body.isNone = false := by kernel_rfl
  have hf : a.eval (.func 13) = .func (.func 13) #[] #[] := rfl
  have hn' : ¬ (Try.f13.name = "runtime.NumGoroutine") := by simpa using hn
  have hb' : ¬ (Try.f13.body = none) := by
    intro h
    rw [h] at hb
    cases hb
  unfold execOp
  simp [ho, resolve, Deferred.ofValue, hf, hx, invoke, callFunc, run_program, Try.func13]
  rw [if_neg hn', if_neg hb']
end Go.Proofs.Ytcnnbbgfmilblaa
/-! ### TrLev -/
namespace Go.Proofs.Ytcnnbbgfmilblaa
open Go.RowKit
set_option linter.unusedVariables false
set_option linter.unusedSimpArgs false
set_option maxRecDepth 100000

/-- Of each node how many collections stand around it, and it, if it is one. -/
structure Lev (l : List Gn) (v : Nat → Int) : Prop where
  root : ∀ x, l[0]? = some x → v 0 = dLv x.kind 0
  kid : ∀ (i : Nat) (x : Gn), l[i]? = some x → ∀ k ∈ x.kids, ∀ y, l[k.toNat]? = some y → v k.toNat = dLv y.kind (v i)
theorem dKids_at {n t : Nat} {lv : Int} : ∀ (ks L : List Int) (q : Nat), L.length = n → t < q → q < n → (∀ k ∈ ks, 0 ≤ k) → (dKids n t lv ks L).getD q 0 = if (q : Int) ∈ ks then lv else L.getD q 0
  | [], L, q, _, _, _, _ => by simp [dKids]
  | k :: ks, L, q, h1, h2, h3, h4 => by
    have hk := h4 k (by simp)
    rw [dKids, dKids_at ks _ q (by split <;> first | exact h1 | (rw [List.length_set]; exact h1)) h2 h3 (fun k hk => h4 k (List.mem_cons_of_mem _ hk))]
    by_cases e : (q : Int) ∈ ks
    · rw [if_pos e, if_pos (List.mem_cons_of_mem _ e)]
    · rw [if_neg e]
      by_cases e2 : k = (q : Int)
      · subst e2
        rw [if_pos (by constructor <;> omega), getD_set _ _ _ _ (by omega), if_pos (by omega), if_pos (by simp)]
      · rw [if_neg (show ¬ (q : Int) ∈ k :: ks by simp only [List.mem_cons, not_or]; exact ⟨fun e3 => e2 e3.symm, e⟩)]
        by_cases e4 : (t : Int) < k ∧ k < (n : Int)
        · rw [if_pos e4, getD_set _ _ _ _ (by omega), if_neg (by omega)]
        · rw [if_neg e4]
section
variable {l : List Gn} {E : Nat → Nat} {v : Nat → Int}
theorem GE.has_parent (h : GE l E) {q : Nat} (h0 : 0 < q) (hq : q < l.length) : ∃ (p : Nat) (x : Gn), p < q ∧ l[p]? = some x ∧ (q : Int) ∈ x.kids := by
  have hE0 : E 0 = l.length := by have := h.ends.root; rwa [List.length_map] at this
  obtain ⟨p, x, _, h2, h3, h4⟩ := h.ends.parent q 0 q (by omega) h0 (by rw [List.length_map]; omega) (by omega)
  rw [List.getElem?_map, Option.map_eq_some_iff] at h3
  obtain ⟨y, hy, rfl⟩ := h3
  obtain ⟨k, hk, e⟩ := List.mem_map.1 h4
  have := h.pos y (List.mem_of_getElem? hy) k hk
  exact ⟨p, y, h2, hy, by rw [← e]; rwa [Int.toNat_of_nonneg this]⟩
theorem GE.one_parent (h : GE l E) {p p' q : Nat} {x x' : Gn} (hx : l[p]? = some x) (hk : (q : Int) ∈ x.kids) (hx' : l[p']? = some x') (hk' : (q : Int) ∈ x'.kids) : p = p' := by
  have lem : ∀ {p p' : Nat} {x x' : Gn}, l[p]? = some x → (q : Int) ∈ x.kids → l[p']? = some x' → (q : Int) ∈ x'.kids → ¬ p < p' := by
    intro p p' x x' hx hk hx' hk' hlt
    have hp' := (List.getElem?_eq_some_iff.1 hx').1
    have h1 := h.apart hx hlt hp' hk
    obtain ⟨j, hj⟩ := List.mem_iff_getElem?.1 hk'
    obtain ⟨_, g1, g2, _⟩ := h.kid hx' hj
    have g3 := h.last_le hx' _ j _ (Nat.le_refl _) hj
    have g4 := (h.lt g2).1
    omega
  have h1 := lem hx hk hx' hk'
  have h2 := lem hx' hk' hx hk
  omega
theorem GE.dgo (h : GE l E) (hv : Lev l v) : ∀ (s t : Nat) (L : List Int) (d : Int), t + s = l.length → L.length = l.length → (∀ (q : Nat) (y : Gn), t ≤ q → l[q]? = some y → (q = 0 ∨ ∃ (p : Nat) (x : Gn), p < t ∧ l[p]? = some x ∧ (q : Int) ∈ x.kids) → v q = dLv y.kind (L.getD q 0)) →
    ∀ B, dGo l s t L d ≤ B ↔ d ≤ B ∧ ∀ i, t ≤ i → i < l.length → v i ≤ B
  | 0, t, L, d, h1, h2, h3, B => ⟨fun g => ⟨g, fun i a b => by omega⟩, fun g => g.1⟩
  | s + 1, t, L, d, h1, h2, h3, B => by
    have hx : l[t]? = some l[t] := List.getElem?_eq_getElem (by omega)
    have hv0 : L[t]? = some L[t] := List.getElem?_eq_getElem (by omega)
    have hgd : L.getD t 0 = L[t] := by rw [List.getD_eq_getElem?_getD, hv0]; rfl
    have hpar : t = 0 ∨ ∃ (p : Nat) (x : Gn), p < t ∧ l[p]? = some x ∧ (t : Int) ∈ x.kids := by
      rcases Nat.eq_zero_or_pos t with e | e
      · exact .inl e
      · exact .inr (h.has_parent e (by omega))
    have hvt := h3 t _ (Nat.le_refl _) hx hpar
    rw [hgd] at hvt
    rw [dGo, hx, hv0]
    simp only
    have := GE.dgo h hv s (t + 1) (dKids l.length t (dLv l[t].kind L[t]) l[t].kids (L.set t (dLv l[t].kind L[t]))) (max d (dLv l[t].kind L[t])) (by omega) (by rw [dKids_len, List.length_set]; exact h2) (fun q y hq hy hp => by
      have hqn := (List.getElem?_eq_some_iff.1 hy).1
      rw [dKids_at _ _ q (by rw [List.length_set]; exact h2) (by omega) hqn (h.pos _ (List.mem_of_getElem? hx))]
      by_cases e : (q : Int) ∈ l[t].kids
      · rw [if_pos e, ← hvt]
        have := hv.kid t _ hx _ e y (by rw [Int.toNat_natCast]; exact hy)
        rwa [Int.toNat_natCast] at this
      · rw [if_neg e, getD_set _ _ _ _ (by omega), if_neg (by omega)]
        refine h3 q y (by omega) hy ?_
        rcases hp with hp | ⟨p, x, p1, p2, p3⟩
        · exact .inl hp
        · refine .inr ⟨p, x, ?_, p2, p3⟩
          by_cases ep : p = t
          · subst ep
            rw [hx] at p2
            injection p2 with p2
            subst p2
            exact absurd p3 e
          · omega) B
    rw [this, ← hvt]
    constructor
    · rintro ⟨g1, g2⟩
      refine ⟨by omega, fun i a b => ?_⟩
      by_cases e : i = t
      · subst e; omega
      · exact g2 i (by omega) b
    · rintro ⟨g1, g2⟩
      have := g2 t (Nat.le_refl _) (by omega)
      exact ⟨by omega, fun i a b => g2 i (by omega) b⟩
/-- So deep at most: so is each node. -/
theorem GE.depth_le (h : GE l E) (hv : Lev l v) (B : Int) : depthF l ≤ B ↔ 0 ≤ B ∧ ∀ i, i < l.length → v i ≤ B := by
  unfold depthF
  rw [h.dgo hv l.length 0 _ 0 (by omega) (by simp) (fun q y _ hy hp => ?_) B]
  · exact ⟨fun g => ⟨g.1, fun i hi => g.2 i (Nat.zero_le _) hi⟩, fun g => ⟨g.1, fun i _ hi => g.2 i hi⟩⟩
  · rcases hp with rfl | ⟨p, x, hp, _⟩
    · rw [hv.root y hy, List.getD_eq_getElem?_getD, List.getElem?_replicate, if_pos (List.getElem?_eq_some_iff.1 hy).1]
      rfl
    · omega
def kindAt (l : List Gn) (q : Nat) : Int := match l[q]? with
  | some x => x.kind
  | none => 0
open Classical in
noncomputable def parOf (l : List Gn) (q : Nat) : Nat := if h : ∃ p, p < q ∧ ∃ x, l[p]? = some x ∧ (q : Int) ∈ x.kids then h.choose else q
noncomputable def levF (l : List Gn) (q : Nat) : Int := if h : parOf l q < q then dLv (kindAt l q) (levF l (parOf l q)) else dLv (kindAt l q) 0
termination_by q
theorem kindAt_is {q : Nat} {x : Gn} (h : l[q]? = some x) : kindAt l q = x.kind := by unfold kindAt; rw [h]
theorem GE.lev (h : GE l E) : Lev l (levF l) := by
  refine ⟨fun x hx => ?_, fun i x hx k hk y hy => ?_⟩
  · rw [levF, dif_neg (by omega), kindAt_is hx]
  · obtain ⟨j, hj⟩ := List.mem_iff_getElem?.1 hk
    obtain ⟨g0, g1, g2, _⟩ := h.kid hx hj
    have hk2 : ((k.toNat : Nat) : Int) = k := Int.toNat_of_nonneg g0
    have hex : ∃ p, p < k.toNat ∧ ∃ x, l[p]? = some x ∧ ((k.toNat : Nat) : Int) ∈ x.kids := ⟨i, g1, x, hx, by rw [hk2]; exact hk⟩
    have hpar : parOf l k.toNat = i := by
      unfold parOf
      rw [dif_pos hex]
      obtain ⟨_, x', hx', hk'⟩ := hex.choose_spec
      exact h.one_parent hx' hk' hx (by rw [hk2]; exact hk)
    rw [levF, dif_pos (by rw [hpar]; exact g1), hpar, kindAt_is hy]
end
theorem dLv_up (kd v : Int) : dLv kd (v + 1) = dLv kd v + 1 := by unfold dLv; split <;> omega
end Go.Proofs.Ytcnnbbgfmilblaa
/-! ### TrDeps -/
namespace Go.Proofs.Ytcnnbbgfmilblaa
open Go.RowKit
set_option linter.unusedVariables false
set_option linter.unusedSimpArgs false
set_option maxRecDepth 100000

def seqT : ByteArray := ⟨#[33, 33, 115, 101, 113]⟩
def oSeq (ks : List Int) : Gn := ⟨2, 0, seqT, ⟨#[]⟩, ⟨#[]⟩, 0, 0, 0, 0, ks⟩
def oSc : Gn := ⟨1, 0, ⟨#[]⟩, ⟨#[]⟩, ⟨#[]⟩, 0, 0, 0, 0, []⟩
def outer1 : List Gn := [oSeq [1], oSc]
def outer2 : List Gn := [oSeq [1, 2], oSc, oSc]
theorem outer1_ge : GE outer1 (fun i => if i = 0 then 2 else i + 1) := by
  refine ⟨?_, ⟨rfl, ?_⟩⟩
  · intro x hx k hk
    simp only [outer1, List.mem_cons, List.not_mem_nil, or_false] at hx
    rcases hx with rfl | rfl
    · simp [oSeq] at hk; omega
    · simp [oSc] at hk
  · intro i y hy
    match i, hy with
    | 0, hy =>
      simp only [outer1, List.map_cons, List.getElem?_cons_zero, Option.some.injEq] at hy
      subst hy
      refine ⟨by simp, by simp [outer1], .inr (.inl rfl), ?_⟩
      exact ⟨rfl, 2, ⟨by omega, by simp [outer1], rfl⟩, rfl⟩
    | 1, hy =>
      simp only [outer1, List.map_cons, List.getElem?_cons_succ, List.getElem?_cons_zero, Option.some.injEq] at hy
      subst hy
      exact ⟨by simp, by simp [outer1], .inl rfl, rfl⟩
    | i + 2, hy => simp [outer1] at hy
theorem outer2_ge : GE outer2 (fun i => if i = 0 then 3 else i + 1) := by
  refine ⟨?_, ⟨rfl, ?_⟩⟩
  · intro x hx k hk
    simp only [outer2, List.mem_cons, List.not_mem_nil, or_false] at hx
    rcases hx with rfl | rfl | rfl
    · simp [oSeq] at hk; omega
    · simp [oSc] at hk
    · simp [oSc] at hk
  · intro i y hy
    match i, hy with
    | 0, hy =>
      simp only [outer2, List.map_cons, List.getElem?_cons_zero, Option.some.injEq] at hy
      subst hy
      refine ⟨by simp, by simp [outer2], .inr (.inl rfl), ?_⟩
      exact ⟨rfl, 2, ⟨by omega, by simp [outer2], rfl⟩, rfl, 3, ⟨by omega, by simp [outer2], rfl⟩, rfl⟩
    | 1, hy =>
      simp only [outer2, List.map_cons, List.getElem?_cons_succ, List.getElem?_cons_zero, Option.some.injEq] at hy
      subst hy
      exact ⟨by simp, by simp [outer2], .inl rfl, rfl⟩
    | 2, hy =>
      simp only [outer2, List.map_cons, List.getElem?_cons_succ, List.getElem?_cons_zero, Option.some.injEq] at hy
      subst hy
      exact ⟨by simp, by simp [outer2], .inl rfl, rfl⟩
    | i + 3, hy => simp [outer2] at hy
section
variable {l m : List Gn} {E F : Nat → Nat}
theorem dep1_at (h0 : 0 < l.length) (i : Nat) : (graftF outer1 1 l)[i]? = if i = 0 then some (oSeq [1]) else l[i - 1]?.map (Gn.mapK (· + 1)) := by
  rw [outer1_ge.behind' (by simp [outer1]), grafted_at (by simp) (by simp [outer1])]
  by_cases q : i = 0
  · subst q
    rw [if_pos (by omega), if_pos rfl]
    simp [outer1, oSeq, Gn.mapK, arK]
  · rw [if_neg (by omega), if_neg q]
    by_cases q2 : i < 1 + l.length
    · rw [if_pos q2]; rfl
    · rw [if_neg q2, List.getElem?_eq_none (by simp [outer1]; omega), List.getElem?_eq_none (by omega)]; rfl
theorem dep2_at (h0 : 0 < l.length) (hm0 : 0 < m.length) (h : GE l E) (hm : GE m F) (i : Nat) : (graftF (graftF outer2 2 m) 1 l)[i]? = if i = 0 then some (oSeq [1, ((1 + l.length : Nat) : Int)]) else if i < 1 + l.length then l[i - 1]?.map (Gn.mapK (· + 1)) else m[i - 1 - l.length]?.map (Gn.mapK (· + ((1 + l.length : Nat) : Int))) := by
  obtain ⟨t1, t2⟩ := outer2_ge.graft hm (a := 2) (by simp [outer2]) hm0
  have hE2 : outer2.length = 3 := rfl
  have hG1 : gE (fun i => if i = 0 then 3 else i + 1) F 2 ((fun i => if i = 0 then 3 else i + 1) 2 - 2) m.length 1 = 2 := by simp [gE, shN]
  rw [hE2] at t2
  have hlen : (graftF outer2 2 m).length = 2 + m.length := by rw [t2]; simp
  have h2at : ∀ j, (graftF outer2 2 m)[j]? = if j = 0 then some (oSeq [1, 2]) else if j = 1 then some oSc else m[j - 2]?.map (Gn.mapK (· + 2)) := by
    intro j
    rw [outer2_ge.behind' (by simp [outer2]), grafted_at (by simp) (by simp [outer2])]
    match j with
    | 0 => simp [outer2, oSeq, Gn.mapK, arK]
    | 1 => simp [outer2, oSc, Gn.mapK]
    | j + 2 =>
      rw [if_neg (show ¬ j + 2 < 2 by omega), if_neg (show ¬ j + 2 = 0 by omega), if_neg (show ¬ j + 2 = 1 by omega)]
      by_cases q2 : j + 2 < 2 + m.length
      · rw [if_pos q2]; rfl
      · rw [if_neg q2, List.getElem?_eq_none (by simp [outer2]; omega), List.getElem?_eq_none (by omega)]; rfl
  rw [t1.behind' (by rw [hlen]; omega), hG1, grafted_at (by omega) (by rw [hlen]; omega)]
  by_cases q : i = 0
  · subst q
    rw [if_pos (by omega), if_pos rfl, h2at, if_pos rfl]
    simp only [Option.map_some, oSeq, Gn.mapK, List.map_cons, List.map_nil, arK]
    congr 2
    simp
    omega
  · rw [if_neg (by omega), if_neg q]
    by_cases q2 : i < 1 + l.length
    · rw [if_pos q2, if_pos q2]; rfl
    · rw [if_neg q2, if_neg q2, h2at, if_neg (by omega), if_neg (by omega), show i - l.length + (2 - 1) - 2 = i - 1 - l.length by omega]
      cases hx : m[i - 1 - l.length]? with
      | none => rfl
      | some x =>
        simp only [Option.map_some, mapK_mapK]
        congr 1
        unfold Gn.mapK
        congr 1
        refine List.map_congr_left fun k hk => ?_
        have := hm.pos x (List.mem_of_getElem? hx) k hk
        unfold arK
        rw [if_neg (by omega)]
        omega
theorem dLv_le1 (kd v : Int) : dLv kd v ≤ v + 1 := by unfold dLv; split <;> omega
theorem levF_le (l : List Gn) (q : Nat) : levF l q ≤ (q : Int) + 1 := by
  induction q using Nat.strongRecOn with
  | _ q ih =>
    rw [levF]
    split
    · rename_i h
      have h1 := ih _ h
      have h2 := dLv_le1 (kindAt l q) (levF l (parOf l q))
      omega
    · have := dLv_le1 (kindAt l q) 0
      omega
theorem GE.depth_bound (h : GE l E) : 0 ≤ depthF l ∧ depthF l ≤ (l.length : Int) := by
  refine ⟨((h.depth_le h.lev _).1 (Int.le_refl _)).1, (h.depth_le h.lev _).2 ⟨by omega, fun i hi => ?_⟩⟩
  have := levF_le l i
  omega
/-- In a collection a tree is one deeper. -/
theorem GE.depth_one (h : GE l E) (h0 : 0 < l.length) : depthF (graftF outer1 1 l) = depthF l + 1 := by
  obtain ⟨g1, g2⟩ := outer1_ge.graft h (a := 1) (by simp [outer1]) h0
  have hlen : (graftF outer1 1 l).length = 1 + l.length := by rw [g2]; simp [outer1]
  have hv : Lev (graftF outer1 1 l) (fun i => if i = 0 then 1 else levF l (i - 1) + 1) := by
    refine ⟨fun x hx => ?_, fun i x hx k hk y hy => ?_⟩
    · rw [dep1_at h0, if_pos rfl] at hx
      injection hx with hx
      subst hx
      rfl
    · rw [dep1_at h0] at hx
      by_cases q : i = 0
      · rw [if_pos q] at hx
        injection hx with hx
        subst hx q
        simp only [oSeq, List.mem_singleton] at hk
        subst hk
        rw [dep1_at h0, if_neg (by decide)] at hy
        rw [Option.map_eq_some_iff] at hy
        obtain ⟨z, hz, rfl⟩ := hy
        have := h.lev.root z hz
        show levF l 0 + 1 = dLv z.kind 1
        rw [this]
        exact (dLv_up z.kind 0).symm
      · rw [if_neg q, Option.map_eq_some_iff] at hx
        obtain ⟨z, hz, rfl⟩ := hx
        obtain ⟨k', hk', rfl⟩ := List.mem_map.1 hk
        have hp := h.pos z (List.mem_of_getElem? hz) k' hk'
        have e : (k' + 1).toNat = k'.toNat + 1 := by omega
        rw [dep1_at h0, e, if_neg (by omega), Nat.add_sub_cancel, Option.map_eq_some_iff] at hy
        obtain ⟨y', hy', rfl⟩ := hy
        have := h.lev.kid _ z hz k' hk' y' hy'
        show (if (k' + 1).toNat = 0 then (1 : Int) else levF l ((k' + 1).toNat - 1) + 1) = dLv y'.kind (if i = 0 then 1 else levF l (i - 1) + 1)
        rw [e, if_neg (by omega), if_neg q, Nat.add_sub_cancel, this, dLv_up]
  have key : ∀ B, depthF (graftF outer1 1 l) ≤ B ↔ depthF l + 1 ≤ B := by
    intro B
    rw [g1.depth_le hv, hlen]
    have := h.depth_le h.lev (B - 1)
    constructor
    · rintro ⟨a1, a2⟩
      have b0 := a2 0 (by omega)
      simp only [if_pos] at b0
      have := this.2 ⟨by omega, fun i hi => by have := a2 (i + 1) (by omega); rw [if_neg (by omega), Nat.add_sub_cancel] at this; omega⟩
      omega
    · intro a
      obtain ⟨a1, a2⟩ := this.1 (by omega)
      refine ⟨by omega, fun i hi => ?_⟩
      by_cases q : i = 0
      · rw [if_pos q]; omega
      · rw [if_neg q]; have := a2 (i - 1) (by omega); omega
  have h1 := (key _).1 (Int.le_refl _)
  have h2 := (key _).2 (Int.le_refl _)
  omega
/-- Two trees in a collection: one deeper than the deeper one. -/
theorem GE.depth_both (h : GE l E) (hm : GE m F) (h0 : 0 < l.length) (hm0 : 0 < m.length) : depthF (graftF (graftF outer2 2 m) 1 l) = 1 + max (depthF l) (depthF m) ∧ (∃ G, GE (graftF (graftF outer2 2 m) 1 l) G) ∧ (graftF (graftF outer2 2 m) 1 l).length = 1 + l.length + m.length := by
  obtain ⟨t1, t2⟩ := outer2_ge.graft hm (a := 2) (by simp [outer2]) hm0
  have hlen2 : (graftF outer2 2 m).length = 2 + m.length := by rw [t2]; simp [outer2]
  obtain ⟨g1, g2⟩ := t1.graft h (a := 1) (by rw [hlen2]; omega) h0
  have hG1 : gE (fun i => if i = 0 then 3 else i + 1) F 2 ((fun i => if i = 0 then 3 else i + 1) 2 - 2) m.length 1 = 2 := by simp [gE, shN]
  have hlen : (graftF (graftF outer2 2 m) 1 l).length = 1 + l.length + m.length := by rw [g2, hG1, hlen2]; omega
  refine ⟨?_, ⟨_, g1⟩, hlen⟩
  have hat := dep2_at h0 hm0 h hm
  have hv : Lev (graftF (graftF outer2 2 m) 1 l) (fun i => if i = 0 then 1 else if i < 1 + l.length then levF l (i - 1) + 1 else levF m (i - 1 - l.length) + 1) := by
    refine ⟨fun x hx => ?_, fun i x hx k hk y hy => ?_⟩
    · rw [hat, if_pos rfl] at hx
      injection hx with hx
      subst hx
      rfl
    · rw [hat] at hx
      by_cases q : i = 0
      · rw [if_pos q] at hx
        injection hx with hx
        subst hx q
        simp only [oSeq, List.mem_cons, List.not_mem_nil, or_false] at hk
        rcases hk with rfl | rfl
        · rw [hat, if_neg (by decide), if_pos (by show (1 : Int).toNat < _; omega)] at hy
          rw [Option.map_eq_some_iff] at hy
          obtain ⟨z, hz, rfl⟩ := hy
          have := h.lev.root z hz
          show (if (1 : Int).toNat = 0 then (1 : Int) else if (1 : Int).toNat < 1 + l.length then levF l ((1 : Int).toNat - 1) + 1 else _) = dLv z.kind 1
          rw [if_neg (by decide), if_pos (by show (1 : Int).toNat < _; omega)]
          show levF l 0 + 1 = _
          rw [this]
          exact (dLv_up z.kind 0).symm
        · rw [Int.toNat_natCast] at hy ⊢
          rw [hat, if_neg (by omega), if_neg (by omega), show 1 + l.length - 1 - l.length = 0 by omega, Option.map_eq_some_iff] at hy
          obtain ⟨z, hz, rfl⟩ := hy
          have := hm.lev.root z hz
          show (if 1 + l.length = 0 then (1 : Int) else if 1 + l.length < 1 + l.length then _ else levF m (1 + l.length - 1 - l.length) + 1) = dLv z.kind 1
          rw [if_neg (by omega), if_neg (by omega), show 1 + l.length - 1 - l.length = 0 by omega, this]
          exact (dLv_up z.kind 0).symm
      · rw [if_neg q] at hx
        by_cases q2 : i < 1 + l.length
        · rw [if_pos q2, Option.map_eq_some_iff] at hx
          obtain ⟨z, hz, rfl⟩ := hx
          obtain ⟨k', hk', rfl⟩ := List.mem_map.1 hk
          obtain ⟨j, hj⟩ := List.mem_iff_getElem?.1 hk'
          obtain ⟨hp, _, hkl, _⟩ := h.kid hz hj
          have e : (k' + 1).toNat = k'.toNat + 1 := by omega
          rw [hat, e, if_neg (by omega), if_pos (by omega), Nat.add_sub_cancel, Option.map_eq_some_iff] at hy
          obtain ⟨y', hy', rfl⟩ := hy
          have := h.lev.kid _ z hz k' hk' y' hy'
          show (if (k' + 1).toNat = 0 then (1 : Int) else if (k' + 1).toNat < 1 + l.length then levF l ((k' + 1).toNat - 1) + 1 else _) = dLv y'.kind (if i = 0 then 1 else if i < 1 + l.length then levF l (i - 1) + 1 else _)
          rw [e, if_neg (by omega), if_pos (by omega), if_neg q, if_pos q2, Nat.add_sub_cancel, this, dLv_up]
        · rw [if_neg q2, Option.map_eq_some_iff] at hx
          obtain ⟨z, hz, rfl⟩ := hx
          obtain ⟨k', hk', rfl⟩ := List.mem_map.1 hk
          have hp := hm.pos z (List.mem_of_getElem? hz) k' hk'
          have e : (k' + ((1 + l.length : Nat) : Int)).toNat = k'.toNat + (1 + l.length) := by omega
          rw [hat, e, if_neg (by omega), if_neg (by omega), show k'.toNat + (1 + l.length) - 1 - l.length = k'.toNat by omega, Option.map_eq_some_iff] at hy
          obtain ⟨y', hy', rfl⟩ := hy
          have := hm.lev.kid _ z hz k' hk' y' hy'
          show (if (k' + ((1 + l.length : Nat) : Int)).toNat = 0 then (1 : Int) else if (k' + ((1 + l.length : Nat) : Int)).toNat < 1 + l.length then _ else levF m ((k' + ((1 + l.length : Nat) : Int)).toNat - 1 - l.length) + 1) = dLv y'.kind (if i = 0 then 1 else if i < 1 + l.length then _ else levF m (i - 1 - l.length) + 1)
          rw [e, if_neg (by omega), if_neg (by omega), if_neg q, if_neg q2, show k'.toNat + (1 + l.length) - 1 - l.length = k'.toNat by omega, this, dLv_up]
  have key : ∀ B, depthF (graftF (graftF outer2 2 m) 1 l) ≤ B ↔ 1 + max (depthF l) (depthF m) ≤ B := by
    intro B
    rw [g1.depth_le hv, hlen]
    have k1 := h.depth_le h.lev (B - 1)
    have k2 := hm.depth_le hm.lev (B - 1)
    constructor
    · rintro ⟨a1, a2⟩
      have b0 := a2 0 (by omega)
      simp only [if_pos] at b0
      have c1 := k1.2 ⟨by omega, fun i hi => by have := a2 (i + 1) (by omega); rw [if_neg (by omega), if_pos (by omega), Nat.add_sub_cancel] at this; omega⟩
      have c2 := k2.2 ⟨by omega, fun i hi => by have := a2 (i + 1 + l.length) (by omega); rw [if_neg (by omega), if_neg (by omega), show i + 1 + l.length - 1 - l.length = i by omega] at this; omega⟩
      omega
    · intro a
      obtain ⟨a1, a2⟩ := k1.1 (by omega)
      obtain ⟨b1, b2⟩ := k2.1 (by omega)
      refine ⟨by omega, fun i hi => ?_⟩
      by_cases q : i = 0
      · rw [if_pos q]; omega
      · rw [if_neg q]
        by_cases q2 : i < 1 + l.length
        · rw [if_pos q2]; have := a2 (i - 1) (by omega); omega
        · rw [if_neg q2]; have := b2 (i - 1 - l.length) (by omega); omega
  have h1 := (key _).1 (Int.le_refl _)
  have h2 := (key _).2 (Int.le_refl _)
  omega
end
end Go.Proofs.Ytcnnbbgfmilblaa
/-! ### TrLit -/
namespace Go.Proofs.Ytcnnbbgfmilblaa
open Go.RowKit
set_option linter.unusedVariables false
set_option linter.unusedSimpArgs false
set_option maxRecDepth 100000

def lC (v : Value) : List Value := [.int .i64 2, .int .i64 0, .string ⟨#[33, 33, 115, 101, 113]⟩, .string ⟨#[]⟩, .string ⟨#[]⟩, .int .i64 0, .int .i64 0, .int .i64 0, .int .i64 0, v]
theorem lit_gl {V : World} {b : Nat} {P : List GK} {n : Nat} (hn : P.length = n) (hn2 : n ≤ 1000000) (hc : ∀ k, V.cell? ⟨b, k, none⟩ = (gksC P)[k]?) (hk : ∀ (i : Nat) (p : GK), P[i]? = some p → ∃ K, p.2 = .slice K p.1.kids.length p.1.kids.length ∧ p.1.kids.length ≤ 1000000 ∧ (K = none → p.1.kids.length = 0) ∧ RdC V K (ki p.1.kids)) : GL V (some ⟨b, 0, none⟩) n n (glst P) := by
  refine ⟨by simp [glst]; exact hn, Nat.le_refl _, by omega, fun e => (by cases e), fun i x hx => ⟨_, _, rfl, ?_⟩⟩
  simp only [glst, List.getElem?_map, Option.map_eq_some_iff] at hx
  obtain ⟨p, hp, rfl⟩ := hx
  obtain ⟨K, e, h1, h2, h3⟩ := hk i p hp
  refine ⟨K, p.1.kids.length, Nat.le_refl _, by omega, h2, h3, fun j u hu => ?_⟩
  rw [hc, Nat.zero_add, gksC_at P i j p hp (by have := (List.getElem?_eq_some_iff.1 hu).1; exact this)]
  rw [← e] at hu
  exact hu
theorem outer1_gl {V V1 V2 : World} {S : Nat} (hS : V.heap.size = S) (h1 : V.alloc (.cells #[.int .i64 1] 3) = V1) (h2 : V1.alloc (.cells #[.int .i64 2, .int .i64 0, .string ⟨#[33, 33, 115, 101, 113]⟩, .string ⟨#[]⟩, .string ⟨#[]⟩, .int .i64 0, .int .i64 0, .int .i64 0, .int .i64 0, .slice (some ⟨S, 0, none⟩) 1 1, .int .i64 1, .int .i64 0, .string ⟨#[]⟩, .string ⟨#[]⟩, .string ⟨#[]⟩, .int .i64 0, .int .i64 0, .int .i64 0, .int .i64 0, .slice none 0 0] 31) = V2) :
    GL V2 (some ⟨S + 1, 0, none⟩) 2 2 outer1 ∧ Below V.heap.size V V2 ∧ V1.heap.size = S + 1 := by
  have s1 : V1.heap.size = S + 1 := by rw [← h1, ← hS]; simp
  have b1 : Below V.heap.size V V1 := by rw [← h1]; exact (Below.refl _ _).alloc (Nat.le_refl _) _
  have b2 : Below V1.heap.size V1 V2 := by rw [← h2]; exact (Below.refl _ _).alloc (Nat.le_refl _) _
  have r1 : RdC V2 (some ⟨S, 0, none⟩) (ki [1]) := by
    have : RdC V1 (some ⟨S, 0, none⟩) (ki [1]) := by rw [← h1]; exact RdC.new hS.symm (fun k v hv => by simpa [ki] using hv)
    exact this.below b2
  refine ⟨?_, below_step b1 b2, s1⟩
  have hc : ∀ k, V2.cell? ⟨S + 1, k, none⟩ = (gksC [(oSeq [1], .slice (some ⟨S, 0, none⟩) 1 1), (oSc, .slice none 0 0)])[k]? := fun k => by
    rw [← h2, ← s1, World.cell?_alloc_mark]
    show (List.toArray _)[k]? = _
    rw [List.getElem?_toArray]
    rfl
  refine lit_gl (P := [(oSeq [1], .slice (some ⟨S, 0, none⟩) 1 1), (oSc, .slice none 0 0)]) rfl (by omega) hc (fun i p hp => ?_)
  match i, hp with
  | 0, hp => injection hp with hp; subst hp; exact ⟨some ⟨S, 0, none⟩, rfl, by simp [oSeq], fun e => (by cases e), r1⟩
  | 1, hp => injection hp with hp; subst hp; exact ⟨none, rfl, by simp [oSc], fun _ => rfl, RdC.nil _ _⟩
  | i + 2, hp => simp at hp
theorem outer2_gl {V V1 V2 : World} {S : Nat} (hS : V.heap.size = S) (h1 : V.alloc (.cells #[.int .i64 1, .int .i64 2] 3) = V1) (h2 : V1.alloc (.cells #[.int .i64 2, .int .i64 0, .string ⟨#[33, 33, 115, 101, 113]⟩, .string ⟨#[]⟩, .string ⟨#[]⟩, .int .i64 0, .int .i64 0, .int .i64 0, .int .i64 0, .slice (some ⟨S, 0, none⟩) 2 2, .int .i64 1, .int .i64 0, .string ⟨#[]⟩, .string ⟨#[]⟩, .string ⟨#[]⟩, .int .i64 0, .int .i64 0, .int .i64 0, .int .i64 0, .slice none 0 0, .int .i64 1, .int .i64 0, .string ⟨#[]⟩, .string ⟨#[]⟩, .string ⟨#[]⟩, .int .i64 0, .int .i64 0, .int .i64 0, .int .i64 0, .slice none 0 0] 31) = V2) :
    GL V2 (some ⟨S + 1, 0, none⟩) 3 3 outer2 ∧ Below V.heap.size V V2 ∧ V1.heap.size = S + 1 := by
  have s1 : V1.heap.size = S + 1 := by rw [← h1, ← hS]; simp
  have b1 : Below V.heap.size V V1 := by rw [← h1]; exact (Below.refl _ _).alloc (Nat.le_refl _) _
  have b2 : Below V1.heap.size V1 V2 := by rw [← h2]; exact (Below.refl _ _).alloc (Nat.le_refl _) _
  have r1 : RdC V2 (some ⟨S, 0, none⟩) (ki [1, 2]) := by
    have : RdC V1 (some ⟨S, 0, none⟩) (ki [1, 2]) := by rw [← h1]; exact RdC.new hS.symm (fun k v hv => by simpa [ki] using hv)
    exact this.below b2
  refine ⟨?_, below_step b1 b2, s1⟩
  have hc : ∀ k, V2.cell? ⟨S + 1, k, none⟩ = (gksC [(oSeq [1, 2], .slice (some ⟨S, 0, none⟩) 2 2), (oSc, .slice none 0 0), (oSc, .slice none 0 0)])[k]? := fun k => by
    rw [← h2, ← s1, World.cell?_alloc_mark]
    show (List.toArray _)[k]? = _
    rw [List.getElem?_toArray]
    rfl
  refine lit_gl (P := [(oSeq [1, 2], .slice (some ⟨S, 0, none⟩) 2 2), (oSc, .slice none 0 0), (oSc, .slice none 0 0)]) rfl (by omega) hc (fun i p hp => ?_)
  match i, hp with
  | 0, hp => injection hp with hp; subst hp; exact ⟨some ⟨S, 0, none⟩, rfl, by simp [oSeq], fun e => (by cases e), r1⟩
  | 1, hp => injection hp with hp; subst hp; exact ⟨none, rfl, by simp [oSc], fun _ => rfl, RdC.nil _ _⟩
  | 2, hp => injection hp with hp; subst hp; exact ⟨none, rfl, by simp [oSc], fun _ => rfl, RdC.nil _ _⟩
  | i + 3, hp => simp at hp
end Go.Proofs.Ytcnnbbgfmilblaa
