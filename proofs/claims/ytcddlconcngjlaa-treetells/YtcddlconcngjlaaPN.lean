/- Same of numbers, Node, Nodes over nodes of any kind: two lists that are told alike are the same. · Rows of whole numbers: are they alike? (scholiumkeep.Same) · Rows of whole numbers, nodes, lists of nodes: are they alike? (slices.Equal, scholiumkeep.Same; tree.sameNode, slices.EqualFunc, tree.Same.) Written by tools/tree/same.py. · Chapter 13: the law's trees: the tree of a play's text, or one scalar. · Chapter 13: trees in memory, as the laws use them: made, cut out, put in. · Chapter 13: slices.BinarySearch of whole numbers; tree.Parent of a tree. · Chapter 13: the two lists that the law on depths writes out, in memory. · Chapter 13: the law's own example. -/
import Derived.Test.YtcddlconcngjlaaPL
import Derived.Test.YtcddlconcngjlaaPM
import Derived.Test.YtcddlconcngjlaaPH
import Derived.Test.YtcddlconcngjlaaPK
set_option linter.unusedSimpArgs false
set_option linter.unusedVariables false
namespace Go.Proofs.Ytcddlconcngjlaa
open Go.RowKit
set_option linter.unusedVariables false
set_option linter.unusedSimpArgs false
set_option maxRecDepth 100000
theorem kiD_at (ks : List Int) (k : Nat) (h : k < ks.length) : (ki ks)[k]? = some (.int .i64 (ks.getD k 0)) := by
  rw [List.getD_eq_getElem?_getD, List.getElem?_eq_getElem h, Option.getD_some]
  exact ki_at (List.getElem?_eq_getElem h)
set_option maxHeartbeats 1000000 in
theorem gsameI_at (A B : Option Addr) (n c d : Nat) (ks : List Int) (w W : World) (hl : ks.length = n) (hn : n ≤ 1000000000) (hnc : n ≤ c) (hnd : n ≤ d) (ha : RdC W A (ki ks)) (hb : RdC W B (ki ks)) (hw : Below w.heap.size w W) :
    Calls Try.prog 49 #[.slice A n c, .slice B n d] W fun e w' => e = .returned (.bool true) ∧ ∃ m, w' = W.drewN m := by
  subst hl
  have HA := Lib.hid ha
  have HB := Lib.hid hb
  clear ha hb hw
  go_enter Try.func49, Try.ntmps49
  go_wp2
  go_loopw [5] (fun i V => ∃ (k m : Nat), k ≤ ks.length ∧ i = .int .i64 (k : Int) ∧ V = W.drewN m) (fun i _ => ks.length - (intOf i).toNat)
  case atStart => exact ⟨0, 0, by omega, rfl, rfl⟩
  case round =>
    obtain ⟨k, m, hk, rfl, rfl⟩ := hrel
    by_cases hlt : k < ks.length
    · have hdr : Below W.heap.size W (W.drewN m) := below_draws (Below.refl _ _) m
      obtain ⟨b, off, rfl, hc⟩ := (HA.out.below hdr).addr (by simp [ki]; omega)
      obtain ⟨b', off', rfl, hc'⟩ := (HB.out.below hdr).addr (by simp [ki]; omega)
      have c1 := hc k _ (kiD_at ks k hlt)
      have c2 := hc' k _ (kiD_at ks k hlt)
      generalize ks.getD k 0 = x at *
      have d1 : (k : Int) < (ks.length : Int) := by omega
      generalize hV : W.drewN m = V at *
      have HV := Lib.hid hV
      clear hc hc' hdr hV
      go_wp2_with fail
      go_quiet (fail)
      go_wp2
      go_roundw
      case rel =>
        refine ⟨k + 1, m + nq, by omega, by go_num, ?_⟩
        rw [← HV.out]
        simp [World.drewN, Nat.add_assoc]
      case measure => simp [intOf]; omega
    · go_wp2
      go_ret
      exact ⟨rfl, _, rfl⟩
set_option maxHeartbeats 2000000 in
theorem gnode_same (x : Gn) (A B : Option Addr) (n c d : Nat) (W : World) (hl : x.kids.length = n) (hn : n ≤ 1000000000) (hnc : n ≤ c) (hnd : n ≤ d) (ha : RdC W A (ki x.kids)) (hb : RdC W B (ki x.kids)) :
    Calls Try.prog 39 #[.agg (gnC x (.slice A n c)).toArray, .agg (gnC x (.slice B n d)).toArray] W fun e w' => e = .returned (.bool true) ∧ Below W.heap.size W w' := by
  obtain ⟨kd, hkd⟩ : ∃ t, x.kind = t := ⟨_, rfl⟩
  obtain ⟨st, hst⟩ : ∃ t, x.style = t := ⟨_, rfl⟩
  obtain ⟨tg, htg⟩ : ∃ t, x.tag = t := ⟨_, rfl⟩
  obtain ⟨an, han⟩ : ∃ t, x.anchor = t := ⟨_, rfl⟩
  obtain ⟨vl, hvl⟩ : ∃ t, x.value = t := ⟨_, rfl⟩
  have hcx : ∀ v : Value, (gnC x v).toArray = #[.int .i64 kd, .int .i64 st, .string tg, .string an, .string vl, .int .i64 x.st, .int .i64 x.en, .int .i64 x.hd, .int .i64 x.mr, v] := fun v => by
    rw [← htg, ← han, ← hvl, ← hkd, ← hst]; rfl
  rw [hcx, hcx]
  obtain ⟨W1, hW1⟩ : ∃ W1, W.alloc (.cells #[.int .i64 kd, .int .i64 st, .string tg, .string an, .string vl, .int .i64 x.st, .int .i64 x.en, .int .i64 x.hd, .int .i64 x.mr, .slice A n c] 41) = W1 := ⟨_, rfl⟩
  obtain ⟨W2, hW2⟩ : ∃ W2, W1.alloc (.cells #[.int .i64 kd, .int .i64 st, .string tg, .string an, .string vl, .int .i64 x.st, .int .i64 x.en, .int .i64 x.hd, .int .i64 x.mr, .slice B n d] 41) = W2 := ⟨_, rfl⟩
  have hb1 : Below W.heap.size W W1 := by rw [← hW1]; exact (Below.refl _ _).alloc (Nat.le_refl _) _
  have hb2 : Below W.heap.size W W2 := by rw [← hW2]; exact hb1.alloc hb1.size _
  have b1 : Box W1 W.heap.size [.int .i64 kd, .int .i64 st, .string tg, .string an, .string vl, .int .i64 x.st, .int .i64 x.en, .int .i64 x.hd, .int .i64 x.mr, .slice A n c] := by rw [← hW1]; exact Box.new W _
  have b2 : Box W2 W1.heap.size [.int .i64 kd, .int .i64 st, .string tg, .string an, .string vl, .int .i64 x.st, .int .i64 x.en, .int .i64 x.hd, .int .i64 x.mr, .slice B n d] := by rw [← hW2]; exact Box.new W1 _
  have hs1 : W1.heap.size = W.heap.size + 1 := by rw [← hW1]; simp
  have b1' : Box W2 W.heap.size [.int .i64 kd, .int .i64 st, .string tg, .string an, .string vl, .int .i64 x.st, .int .i64 x.en, .int .i64 x.hd, .int .i64 x.mr, .slice A n c] := b1.below (by rw [← hW2]; exact (Below.refl _ _).alloc (Nat.le_refl _) _)
  rw [hs1] at b2
  have x0 := b1'.cell 0 _ rfl
  have y0 := b2.cell 0 _ rfl
  have x1 := b1'.cell 1 _ rfl
  have y1 := b2.cell 1 _ rfl
  have x2 := b1'.cell 2 _ rfl
  have y2 := b2.cell 2 _ rfl
  have x3 := b1'.cell 3 _ rfl
  have y3 := b2.cell 3 _ rfl
  have x4 := b1'.cell 4 _ rfl
  have y4 := b2.cell 4 _ rfl
  have x5 := b1'.cell 5 _ rfl
  have y5 := b2.cell 5 _ rfl
  have x6 := b1'.cell 6 _ rfl
  have y6 := b2.cell 6 _ rfl
  have x7 := b1'.cell 7 _ rfl
  have y7 := b2.cell 7 _ rfl
  have x8 := b1'.cell 8 _ rfl
  have y8 := b2.cell 8 _ rfl
  have x9 := b1'.cell 9 _ rfl
  have y9 := b2.cell 9 _ rfl
  have HA := Lib.hid (ha.below hb2)
  have HB := Lib.hid (hb.below hb2)
  have HL := Lib.hid hl
  have HB2 := Lib.hid hb2
  clear hb1 hb2 b1 b2 b1' ha hb hcx hkd hst htg han hvl hl
  have HS : Hid (Calls Try.prog 49 #[.slice A n c, .slice B n d] W2 fun e w' => e = .returned (.bool true) ∧ ∃ m, w' = W2.drewN m) := gsameI_at A B n c d x.kids W2 W2 HL.out hn hnc hnd HA.out HB.out (Below.refl _ _)
  go_enter Try.func39, Try.ntmps39
  go_wp2_with fail
  refine HS.out.mono ?_
  rintro e w' ⟨rfl, m, rfl⟩
  go_wp2_with fail
  go_ret
  exact ⟨rfl, below_draws HB2.out m⟩
set_option maxHeartbeats 4000000 in
theorem gnodes_same {W : World} {A1 A2 : Option Addr} {m c1 c2 : Nat} {l : List Gn} (h1 : GL W A1 m c1 l) (h2 : GL W A2 m c2 l) (ho1 : ∀ g o, A1 = some ⟨g, o, none⟩ → o = 0) (ho2 : ∀ g o, A2 = some ⟨g, o, none⟩ → o = 0) (hn : m ≤ 1000000) (hk : ∀ x ∈ l, x.kids.length ≤ 1000000) :
    Calls Try.prog 9 #[.slice A1 m c1, .slice A2 m c2] W fun e w' => e = .returned (.bool true) ∧ Below W.heap.size W w' := by
  have H1 := Lib.hid h1
  have H2 := Lib.hid h2
  have HK := Lib.hid hk
  have HO := Lib.hid (And.intro ho1 ho2)
  clear h1 h2 hk ho1 ho2
  go_enter Try.func9, Try.ntmps9
  go_wp2_with fail
  go_loopw [13] (fun i V => ∃ j : Nat, j ≤ m ∧ i = .int .i64 (j : Int) ∧ Hid (Below W.heap.size W V)) (fun i _ => m - (intOf i).toNat)
  case atStart => exact ⟨0, Nat.zero_le _, rfl, Below.refl _ _⟩
  case round =>
    obtain ⟨j, hj, rfl, HB⟩ := hrel
    obtain ⟨V, hV⟩ : ∃ x, x = wr := ⟨_, rfl⟩
    subst hV
    by_cases hlt : j < m
    · have dj : (j : Int) < (m : Int) := by omega
      obtain ⟨x, hx⟩ : ∃ x, l[j]? = some x := ⟨l[j]'(by rw [H1.out.len]; exact hlt), List.getElem?_eq_getElem _⟩
      have hkx := HK.out x (List.mem_of_getElem? hx)
      obtain ⟨g1, o1, rfl, Ak, ck, hk1, hk2, _, hr1, hc1⟩ := H1.out.at_ j x hx
      obtain ⟨g2, o2, rfl, Bk, dk, hk3, hk4, _, hr2, hc2⟩ := H2.out.at_ j x hx
      obtain rfl := HO.out.1 g1 o1 rfl
      obtain rfl := HO.out.2 g2 o2 rfl
      have HN : Hid (∀ U, Below W.heap.size W U → Calls Try.prog 39 #[.agg (gnC x (.slice Ak x.kids.length ck)).toArray, .agg (gnC x (.slice Bk x.kids.length dk)).toArray] U fun e w' => e = .returned (.bool true) ∧ Below U.heap.size U w') := fun U hU =>
        gnode_same x Ak Bk x.kids.length ck dk U rfl (by omega) hk1 hk3 (hr1.below hU) (hr2.below hU)
      have C1 := Lib.hid hc1
      have C2 := Lib.hid hc2
      clear hx hr1 hr2 hk1 hk2 hk3 hk4 hkx hc1 hc2
      obtain ⟨c1v, hc1v⟩ : ∃ v, Value.agg (gnC x (.slice Ak x.kids.length ck)).toArray = v := ⟨_, rfl⟩
      obtain ⟨c2v, hc2v⟩ : ∃ v, Value.agg (gnC x (.slice Bk x.kids.length dk)).toArray = v := ⟨_, rfl⟩
      have L1 : Hid (∀ (a : Act) (o : Oper) (z : Operand), o.op = .load 41 z → a.eval z = .pointer (some ⟨g1, j * 10, none⟩) → ∀ U, Below W.heap.size W U → (execOp a.eval o).run Try.prog U = .ok (.value c1v) U) := fun a o z ho hz U hU => by
        rw [← hc1v]; exact load10o o z ho a U g1 (j * 10) _ _ _ _ _ _ _ _ _ _ hz (fun k v hk => cell_keep hU (by have := C1.out k v hk; rwa [Nat.zero_add] at this))
      have L2 : Hid (∀ (a : Act) (o : Oper) (z : Operand), o.op = .load 41 z → a.eval z = .pointer (some ⟨g2, j * 10, none⟩) → ∀ U, Below W.heap.size W U → (execOp a.eval o).run Try.prog U = .ok (.value c2v) U) := fun a o z ho hz U hU => by
        rw [← hc2v]; exact load10o o z ho a U g2 (j * 10) _ _ _ _ _ _ _ _ _ _ hz (fun k v hk => cell_keep hU (by have := C2.out k v hk; rwa [Nat.zero_add] at this))
      rw [hc1v, hc2v] at HN
      clear hc1v hc2v
      have hS : Below W.heap.size W V.drew := HB.out.drew
      go_wp2_with fail
      refine gen_act fun a0 hA => ?_
      have hsz : a0.tmps.size = 27 := by rw [hA]; rfl
      have e0 : a0.eval (.tmp 0) = .slice (some ⟨g1, 0, none⟩) m c1 := by rw [hA]; rfl
      have e1 : a0.eval (.tmp 1) = .slice (some ⟨g2, 0, none⟩) m c2 := by rw [hA]; rfl
      have e5 : a0.eval (.tmp 5) = .int .i64 (j : Int) := by rw [hA]; rfl
      refine region_gate (fun U => Below W.heap.size W U) 8 (by kernel_rfl) ?_
      change wpGate _ _ _ _ _ _ 10 _ _ _
      refine gate_take0 (i := 0) (v := (.slice (some ⟨g1, 0, none⟩) m c1)) rfl (by rfl) (by kernel_rfl) (by kernel_rfl) (by kernel_rfl) (fun _ _ _ h => h) rfl (fun U => kmove_exec _ (.tmp 0) rfl _ _ (by simp [evp_same, evp_ne, szp, hsz, e0, e1, e5]) U) hS ?_
      refine gate_take0 (i := 1) (v := (.int .i64 (j : Int))) rfl (by rfl) (by kernel_rfl) (by kernel_rfl) (by kernel_rfl) (fun _ _ _ h => h) rfl (fun U => kmove_exec _ (.tmp 5) rfl _ _ (by simp [evp_same, evp_ne, szp, hsz, e0, e1, e5]) U) hS ?_
      refine gate_take0 (i := 2) (v := (.pointer (some ⟨g1, j * 10, none⟩))) rfl (by rfl) (by kernel_rfl) (by kernel_rfl) (by kernel_rfl) (fun _ _ _ h => h) rfl (fun U => ixn_exec _ (.tmp 16) (.tmp 17) rfl _ U g1 m c1 j (by simp [evp_same, evp_ne, szp, hsz, e0, e1, e5]) (by simp [evp_same, evp_ne, szp, hsz, e0, e1, e5]) hlt) hS ?_
      refine gate_take (i := 3) (v := (c1v)) rfl (by rfl) (by kernel_rfl) (by kernel_rfl) (by kernel_rfl) (by kernel_rfl) (by kernel_rfl) (fun _ _ _ h => h) rfl (fun U hU => L1.out _ _ (.tmp 18) rfl (by simp [evp_same, evp_ne, szp, hsz, e0, e1, e5]) U hU) hS ?_
      refine gate_take0 (i := 4) (v := (.slice (some ⟨g2, 0, none⟩) m c2)) rfl (by rfl) (by kernel_rfl) (by kernel_rfl) (by kernel_rfl) (fun _ _ _ h => h) rfl (fun U => kmove_exec _ (.tmp 1) rfl _ _ (by simp [evp_same, evp_ne, szp, hsz, e0, e1, e5]) U) hS ?_
      refine gate_take0 (i := 5) (v := (.int .i64 (j : Int))) rfl (by rfl) (by kernel_rfl) (by kernel_rfl) (by kernel_rfl) (fun _ _ _ h => h) rfl (fun U => kmove_exec _ (.tmp 5) rfl _ _ (by simp [evp_same, evp_ne, szp, hsz, e0, e1, e5]) U) hS ?_
      refine gate_take0 (i := 6) (v := (.pointer (some ⟨g2, j * 10, none⟩))) rfl (by rfl) (by kernel_rfl) (by kernel_rfl) (by kernel_rfl) (fun _ _ _ h => h) rfl (fun U => ixn_exec _ (.tmp 20) (.tmp 21) rfl _ U g2 m c2 j (by simp [evp_same, evp_ne, szp, hsz, e0, e1, e5]) (by simp [evp_same, evp_ne, szp, hsz, e0, e1, e5]) hlt) hS ?_
      refine gate_take (i := 7) (v := (c2v)) rfl (by rfl) (by kernel_rfl) (by kernel_rfl) (by kernel_rfl) (by kernel_rfl) (by kernel_rfl) (fun _ _ _ h => h) rfl (fun U hU => L2.out _ _ (.tmp 22) rfl (by simp [evp_same, evp_ne, szp, hsz, e0, e1, e5]) U hU) hS ?_
      refine gate_one (i := 8) (by kernel_rfl) ?_
      refine wpOp_callX rfl rfl (knode_run _ _ (.tmp 19) (.tmp 23) _ rfl c1v c2v (by simp [evp_same, evp_ne, szp, hsz, e0, e1, e5]) (by simp [evp_same, evp_ne, szp, hsz, e0, e1, e5]) _) (HN.out _ hS) ?_
      rintro e w' ⟨rfl, hb⟩
      refine ⟨_, rfl, fun h => Bool.noConfusion (show true = false from h), ?_⟩
      have HB' : Hid (Below W.heap.size W w') := below_step hS hb
      clear hb
      refine gate_one (i := 9) (by kernel_rfl) ?_
      refine wpOp_value (w' := w') (v := .bool (!true)) rfl rfl (knot_exec _ (.tmp 24) rfl _ true (by simp [evp_same, szp, hsz]) w') ⟨fun h => Bool.noConfusion (show true = false from h), ?_⟩
      refine kgate_gen fun a2 hA0 => ?_
      have hA2 : a2 = ((((((((((a0.put (some 16) (.slice (some ⟨g1, 0, none⟩) m c1)).put (some 17) (.int .i64 (j : Int))).put (some 18) (.pointer (some ⟨g1, j * 10, none⟩))).put (some 19) (c1v)).put (some 20) (.slice (some ⟨g2, 0, none⟩) m c2)).put (some 21) (.int .i64 (j : Int))).put (some 22) (.pointer (some ⟨g2, j * 10, none⟩))).put (some 23) (c2v)).put (some 24) (.bool true)).put (some 25) (.bool (!true))) := hA0
      clear hA0
      refine gate_done (by kernel_rfl) ?_ _
      subst hA2 hA
      clear hsz e0 e1 e5 hS
      simp only [Act.put, List.setIfInBounds_toArray, List.set_cons_zero, List.set_cons_succ]
      go_wp2_with fail
      go_roundw
      case rel =>
        first
        | exact ⟨j + 1, by omega, by go_num, HB'.out⟩
        | (repeat apply Exists.intro
           exact ⟨⟨j + 1, by omega, by go_num, HB'.out⟩, rfl⟩)
      case measure => simp [intOf]; omega
    · obtain rfl : j = m := by omega
      go_wp2_with fail
      go_ret
      exact ⟨rfl, HB.out⟩
/-- The answer is yes just where p holds. -/
def AnsB (W : World) (p : Prop) (e : Ending) (w' : World) : Prop := ∃ b, e = .returned (.bool b) ∧ (b = true ↔ p) ∧ Below W.heap.size W w'
set_option maxHeartbeats 2000000 in
theorem ksameI_at {W : World} {A B : Option Addr} {n c m d : Nat} {ks js : List Int} (hl : ks.length = n) (hm : js.length = m) (hn : n ≤ 1000000) (hn2 : m ≤ 1000000) (ha : RdC W A (ki ks)) (hb : RdC W B (ki js)) :
    Calls Try.prog 49 #[.slice A n c, .slice B m d] W (AnsB W (ks = js)) := by
  by_cases hnm : n = m
  · subst hnm
    have HA := Lib.hid ha
    have HB := Lib.hid hb
    have HL := Lib.hid (And.intro hl hm)
    clear ha hb hl hm
    go_enter Try.func49, Try.ntmps49
    go_wp2_with fail
    go_loopw [5] (fun u V => ∃ k : Nat, k ≤ n ∧ u = .int .i64 (k : Int) ∧ Hid (Below W.heap.size W V ∧ ∀ j, j < k → ks[j]? = js[j]?)) (fun u _ => n - (intOf u).toNat)
    case atStart => exact ⟨0, Nat.zero_le _, rfl, Below.refl _ _, fun j hj => by omega⟩
    case round =>
      obtain ⟨k, hk, rfl, HQ⟩ := hrel
      obtain ⟨V, hV⟩ : ∃ z, z = wr := ⟨_, rfl⟩
      subst hV
      by_cases hlt : k < n
      · have dk : (k : Int) < (n : Int) := by omega
        obtain ⟨x, hx⟩ : ∃ z, ks[k]? = some z := ⟨ks[k]'(by rw [HL.out.1]; exact hlt), List.getElem?_eq_getElem _⟩
        obtain ⟨y, hy⟩ : ∃ z, js[k]? = some z := ⟨js[k]'(by rw [HL.out.2]; exact hlt), List.getElem?_eq_getElem _⟩
        obtain ⟨g, o, rfl, hc⟩ := (HA.out.below HQ.out.1).addr (by rw [ki_len, HL.out.1]; omega)
        obtain ⟨g2, o2, rfl, hc2⟩ := (HB.out.below HQ.out.1).addr (by rw [ki_len, HL.out.2]; omega)
        have c1 := hc k _ (ki_at hx)
        have c2 := hc2 k _ (ki_at hy)
        have HXY := Lib.hid (And.intro hx hy)
        clear hc hc2 hx hy
        by_cases hxy : x = y
        · subst hxy
          go_wp2_with fail
          go_quiet (fail)
          go_wp2
          go_roundw
          case rel =>
            refine ⟨k + 1, by omega, by go_num, below_draws HQ.out.1 _, fun j hj => ?_⟩
            by_cases e : j = k
            · subst e; rw [HXY.out.1, HXY.out.2]
            · exact HQ.out.2 j (by omega)
          case measure => simp [intOf]; omega
        · go_wp2_with fail
          go_quiet (fail)
          go_wp2
          go_ret
          refine ⟨false, rfl, ⟨fun h => (by cases h), fun h => ?_⟩, below_draws HQ.out.1 _⟩
          subst h
          rw [HXY.out.1] at HXY
          exact absurd (by have := HXY.out.2; injection this) hxy
      · obtain rfl : k = n := by omega
        go_wp2
        go_ret
        refine ⟨true, rfl, ⟨fun _ => ?_, fun _ => rfl⟩, HQ.out.1⟩
        apply List.ext_getElem?
        intro j
        by_cases h : j < k
        · exact HQ.out.2 j h
        · rw [List.getElem?_eq_none (by rw [HL.out.1]; omega), List.getElem?_eq_none (by rw [HL.out.2]; omega)]
  · have hne : ¬ ks = js := fun h => hnm (by rw [← hl, ← hm, h])
    have hnm' : ((n : Int) == (m : Int)) = false := by rw [beq_eq_false_iff_ne]; omega
    have hnm2 : ¬ (n : Int) = (m : Int) := by omega
    clear ha hb hl hm
    go_enter Try.func49, Try.ntmps49
    go_wp2
    go_ret
    exact ⟨false, rfl, ⟨fun h => (by cases h), fun h => absurd h hne⟩, Below.refl _ _⟩
theorem gstr_ne {p q : ByteArray} (h : ¬ p = q) : (p.toList == q.toList) = false := by
  rw [beq_eq_false_iff_ne]
  intro e
  simp only [Lib.toList_data] at e
  exact h (ByteArray.ext (Array.toList_inj.1 e))
set_option maxHeartbeats 2000000 in
theorem equalI_at {W : World} {A B : Option Addr} {n c m d : Nat} {ks js : List Int} (hl : ks.length = n) (hm : js.length = m) (hn : n ≤ 1000000) (hn2 : m ≤ 1000000) (ha : RdC W A (ki ks)) (hb : RdC W B (ki js)) :
    Calls Try.prog 67 #[.slice A n c, .slice B m d] W (AnsB W (ks = js)) := by
  by_cases hnm : n = m
  · subst hnm
    have HA := Lib.hid ha
    have HB := Lib.hid hb
    have HL := Lib.hid (And.intro hl hm)
    clear ha hb hl hm
    go_enter Try.func67, Try.ntmps67
    go_wp2_with fail
    go_loopw [13] (fun u V => ∃ k : Nat, k ≤ n ∧ u = .int .i64 (k : Int) ∧ Hid (Below W.heap.size W V ∧ ∀ j, j < k → ks[j]? = js[j]?)) (fun u _ => n - (intOf u).toNat)
    case atStart => exact ⟨0, Nat.zero_le _, rfl, Below.refl _ _, fun j hj => by omega⟩
    case round =>
      obtain ⟨k, hk, rfl, HQ⟩ := hrel
      obtain ⟨V, hV⟩ : ∃ z, z = wr := ⟨_, rfl⟩
      subst hV
      by_cases hlt : k < n
      · have dk : (k : Int) < (n : Int) := by omega
        obtain ⟨x, hx⟩ : ∃ z, ks[k]? = some z := ⟨ks[k]'(by rw [HL.out.1]; exact hlt), List.getElem?_eq_getElem _⟩
        obtain ⟨y, hy⟩ : ∃ z, js[k]? = some z := ⟨js[k]'(by rw [HL.out.2]; exact hlt), List.getElem?_eq_getElem _⟩
        obtain ⟨g, o, rfl, hc⟩ := (HA.out.below HQ.out.1).addr (by rw [ki_len, HL.out.1]; omega)
        obtain ⟨g2, o2, rfl, hc2⟩ := (HB.out.below HQ.out.1).addr (by rw [ki_len, HL.out.2]; omega)
        have c1 := hc k _ (ki_at hx)
        have c2 := hc2 k _ (ki_at hy)
        have HXY := Lib.hid (And.intro hx hy)
        clear hc hc2 hx hy
        by_cases hxy : x = y
        · subst hxy
          go_wp2_with fail
          go_quiet (fail)
          go_wp2
          go_roundw
          case rel =>
            refine ⟨k + 1, by omega, by go_num, below_draws HQ.out.1 _, fun j hj => ?_⟩
            by_cases e : j = k
            · subst e; rw [HXY.out.1, HXY.out.2]
            · exact HQ.out.2 j (by omega)
          case measure => simp [intOf]; omega
        · go_wp2_with fail
          go_quiet (fail)
          go_wp2
          go_ret
          refine ⟨false, rfl, ⟨fun h => (by cases h), fun h => ?_⟩, below_draws HQ.out.1 _⟩
          subst h
          rw [HXY.out.1] at HXY
          exact absurd (by have := HXY.out.2; injection this) hxy
      · obtain rfl : k = n := by omega
        go_wp2
        go_ret
        refine ⟨true, rfl, ⟨fun _ => ?_, fun _ => rfl⟩, HQ.out.1⟩
        apply List.ext_getElem?
        intro j
        by_cases h : j < k
        · exact HQ.out.2 j h
        · rw [List.getElem?_eq_none (by rw [HL.out.1]; omega), List.getElem?_eq_none (by rw [HL.out.2]; omega)]
  · have hne : ¬ ks = js := fun h => hnm (by rw [← hl, ← hm, h])
    have hnm' : ((n : Int) == (m : Int)) = false := by rw [beq_eq_false_iff_ne]; omega
    have hnm2 : ¬ (n : Int) = (m : Int) := by omega
    clear ha hb hl hm
    go_enter Try.func67, Try.ntmps67
    go_wp2
    go_ret
    exact ⟨false, rfl, ⟨fun h => (by cases h), fun h => absurd h hne⟩, Below.refl _ _⟩
/-- The same node, whatever its style and its places. -/
def SameG (x y : Gn) : Prop := x.kind = y.kind ∧ x.tag = y.tag ∧ x.anchor = y.anchor ∧ x.value = y.value ∧ x.kids = y.kids
theorem SameG.refl (x : Gn) : SameG x x := ⟨rfl, rfl, rfl, rfl, rfl⟩
def SameL (l m : List Gn) : Prop := l.length = m.length ∧ ∀ (i : Nat) (x y : Gn), l[i]? = some x → m[i]? = some y → SameG x y
theorem SameL.refl (l : List Gn) : SameL l l := ⟨rfl, fun i x y h h' => by rw [h] at h'; injection h' with h'; subst h'; exact SameG.refl x⟩
set_option maxHeartbeats 8000000 in
theorem snode_at (x y : Gn) {A B : Option Addr} {n c m d : Nat} {W : World} (hl : x.kids.length = n) (hm : y.kids.length = m) (hn : n ≤ 1000000) (hn2 : m ≤ 1000000) (ha : RdC W A (ki x.kids)) (hb : RdC W B (ki y.kids)) :
    Calls Try.prog 48 #[.agg (gnC x (.slice A n c)).toArray, .agg (gnC y (.slice B m d)).toArray] W (AnsB W (SameG x y)) := by
  obtain ⟨kd, st, tg, an, vl, p1, p2, p3, p4, ks⟩ := x
  obtain ⟨kd', st', tg', an', vl', p1', p2', p3', p4', js⟩ := y
  simp only at hl hm ha hb
  have hS : SameG ⟨kd, st, tg, an, vl, p1, p2, p3, p4, ks⟩ ⟨kd', st', tg', an', vl', p1', p2', p3', p4', js⟩ ↔ kd = kd' ∧ tg = tg' ∧ an = an' ∧ vl = vl' ∧ ks = js := Iff.rfl
  rw [show (gnC ⟨kd, st, tg, an, vl, p1, p2, p3, p4, ks⟩ (.slice A n c)).toArray = #[.int .i64 kd, .int .i64 st, .string tg, .string an, .string vl, .int .i64 p1, .int .i64 p2, .int .i64 p3, .int .i64 p4, .slice A n c] from rfl]
  rw [show (gnC ⟨kd', st', tg', an', vl', p1', p2', p3', p4', js⟩ (.slice B m d)).toArray = #[.int .i64 kd', .int .i64 st', .string tg', .string an', .string vl', .int .i64 p1', .int .i64 p2', .int .i64 p3', .int .i64 p4', .slice B m d] from rfl]
  obtain ⟨W1, hW1⟩ : ∃ W1, W.alloc (.cells #[.int .i64 kd, .int .i64 st, .string tg, .string an, .string vl, .int .i64 p1, .int .i64 p2, .int .i64 p3, .int .i64 p4, .slice A n c] 41) = W1 := ⟨_, rfl⟩
  obtain ⟨W2, hW2⟩ : ∃ W2, W1.alloc (.cells #[.int .i64 kd', .int .i64 st', .string tg', .string an', .string vl', .int .i64 p1', .int .i64 p2', .int .i64 p3', .int .i64 p4', .slice B m d] 41) = W2 := ⟨_, rfl⟩
  have hb1 : Below W.heap.size W W1 := by rw [← hW1]; exact (Below.refl _ _).alloc (Nat.le_refl _) _
  have hb2 : Below W.heap.size W W2 := by rw [← hW2]; exact hb1.alloc hb1.size _
  have b1 : Box W1 W.heap.size [.int .i64 kd, .int .i64 st, .string tg, .string an, .string vl, .int .i64 p1, .int .i64 p2, .int .i64 p3, .int .i64 p4, .slice A n c] := by rw [← hW1]; exact Box.new W _
  have b2 : Box W2 W1.heap.size [.int .i64 kd', .int .i64 st', .string tg', .string an', .string vl', .int .i64 p1', .int .i64 p2', .int .i64 p3', .int .i64 p4', .slice B m d] := by rw [← hW2]; exact Box.new W1 _
  have hs1 : W1.heap.size = W.heap.size + 1 := by rw [← hW1]; simp
  have b1' : Box W2 W.heap.size [.int .i64 kd, .int .i64 st, .string tg, .string an, .string vl, .int .i64 p1, .int .i64 p2, .int .i64 p3, .int .i64 p4, .slice A n c] := b1.below (by rw [← hW2]; exact (Below.refl _ _).alloc (Nat.le_refl _) _)
  rw [hs1] at b2
  have x0 := b1'.cell 0 _ rfl
  have y0 := b2.cell 0 _ rfl
  have x2 := b1'.cell 2 _ rfl
  have y2 := b2.cell 2 _ rfl
  have x3 := b1'.cell 3 _ rfl
  have y3 := b2.cell 3 _ rfl
  have x4 := b1'.cell 4 _ rfl
  have y4 := b2.cell 4 _ rfl
  have x9 := b1'.cell 9 _ rfl
  have y9 := b2.cell 9 _ rfl
  have HB2 := Lib.hid hb2
  have HE : Hid (Calls Try.prog 67 #[.slice A n c, .slice B m d] W2 (AnsB W2 (ks = js))) := equalI_at hl hm hn hn2 (ha.below hb2) (hb.below hb2)
  have HS := Lib.hid hS
  clear hb1 hb2 b1 b2 b1' ha hb hl hm hS
  by_cases h1 : kd = kd'
  · subst h1
    by_cases h2 : tg = tg'
    · subst h2
      by_cases h3 : an = an'
      · subst h3
        by_cases h4 : vl = vl'
        · subst h4
          go_enter Try.func48, Try.ntmps48
          go_wp2_with fail
          refine HE.out.mono ?_
          rintro e w' ⟨b, rfl, hb, hbb⟩
          have HBB := Lib.hid (And.intro hb hbb)
          clear hb hbb
          go_wp2_with fail
          go_ret
          refine ⟨b, rfl, ?_, below_step HB2.out HBB.out.2⟩
          rw [HS.out, HBB.out.1]
          simp
        · have e4 := gstr_ne h4
          go_enter Try.func48, Try.ntmps48
          go_wp2_with fail
          go_ret
          exact ⟨false, rfl, ⟨fun h => (by cases h), fun h => absurd (HS.out.1 h).2.2.2.1 h4⟩, HB2.out⟩
      · have e3 := gstr_ne h3
        go_enter Try.func48, Try.ntmps48
        go_wp2_with fail
        go_ret
        exact ⟨false, rfl, ⟨fun h => (by cases h), fun h => absurd (HS.out.1 h).2.2.1 h3⟩, HB2.out⟩
    · have e2 := gstr_ne h2
      go_enter Try.func48, Try.ntmps48
      go_wp2_with fail
      go_ret
      exact ⟨false, rfl, ⟨fun h => (by cases h), fun h => absurd (HS.out.1 h).2.1 h2⟩, HB2.out⟩
  · have e1 : (kd == kd') = false := by rw [beq_eq_false_iff_ne]; exact h1
    go_enter Try.func48, Try.ntmps48
    go_wp2_with fail
    go_ret
    exact ⟨false, rfl, ⟨fun h => (by cases h), fun h => absurd (HS.out.1 h).1 h1⟩, HB2.out⟩
set_option maxHeartbeats 8000000 in
theorem tsame_at {W : World} {A B : Option Addr} {n c m d : Nat} {l l' : List Gn} (h1 : GL W A n c l) (h2 : GL W B m d l') (hn : n ≤ 1000000) (hn2 : m ≤ 1000000) (hk1 : ∀ x ∈ l, x.kids.length ≤ 1000000) (hk2 : ∀ x ∈ l', x.kids.length ≤ 1000000) :
    Calls Try.prog 47 #[.slice A n c, .slice B m d, .func (.func 48) #[] #[]] W (AnsB W (SameL l l')) := by
  have hl1 := h1.len
  have hl2 := h2.len
  by_cases hnm : n = m
  · subst hnm
    have H1 := Lib.hid h1
    have H2 := Lib.hid h2
    have HK := Lib.hid (And.intro hk1 hk2)
    have HL := Lib.hid (And.intro hl1 hl2)
    clear h1 h2 hk1 hk2 hl1 hl2
    go_enter Try.func47, Try.ntmps47
    go_wp2_with fail
    go_loopw [17] (fun u V => ∃ k : Nat, k ≤ n ∧ u = .int .i64 (k : Int) ∧ Hid (Below W.heap.size W V ∧ ∀ (j : Nat) (x y : Gn), j < k → l[j]? = some x → l'[j]? = some y → SameG x y)) (fun u _ => n - (intOf u).toNat)
    case atStart => exact ⟨0, Nat.zero_le _, rfl, Below.refl _ _, fun j x y hj => by omega⟩
    case round =>
      obtain ⟨k, hk, rfl, HQ⟩ := hrel
      obtain ⟨V, hV⟩ : ∃ z, z = wr := ⟨_, rfl⟩
      subst hV
      by_cases hlt : k < n
      · have dk : (k : Int) < (n : Int) := by omega
        obtain ⟨x, hx⟩ : ∃ z, l[k]? = some z := ⟨l[k]'(by rw [HL.out.1]; exact hlt), List.getElem?_eq_getElem _⟩
        obtain ⟨y, hy⟩ : ∃ z, l'[k]? = some z := ⟨l'[k]'(by rw [HL.out.2]; exact hlt), List.getElem?_eq_getElem _⟩
        obtain ⟨g1, o1, rfl, K1, c1, a1, a2, a3, a4, a5⟩ := (H1.out.below HQ.out.1).at_ k x hx
        obtain ⟨g2, o2, rfl, K2, c2, b1, b2, b3, b4, b5⟩ := (H2.out.below HQ.out.1).at_ k y hy
        have x0 := a5 0 _ rfl
        have x1 := a5 1 _ rfl
        have x2 := a5 2 _ rfl
        have x3 := a5 3 _ rfl
        have x4 := a5 4 _ rfl
        have x5 := a5 5 _ rfl
        have x6 := a5 6 _ rfl
        have x7 := a5 7 _ rfl
        have x8 := a5 8 _ rfl
        have x9 := a5 9 _ rfl
        rw [Nat.add_zero] at x0
        obtain ⟨V1, hV1⟩ : ∃ z, V.alloc (.cells (gnC x (.slice K1 x.kids.length c1)).toArray 41) = z := ⟨_, rfl⟩
        have hb1 : Below V.heap.size V V1 := by rw [← hV1]; exact (Below.refl _ _).alloc (Nat.le_refl _) _
        have y0 := cell_keep hb1 (b5 0 _ rfl)
        have y1 := cell_keep hb1 (b5 1 _ rfl)
        have y2 := cell_keep hb1 (b5 2 _ rfl)
        have y3 := cell_keep hb1 (b5 3 _ rfl)
        have y4 := cell_keep hb1 (b5 4 _ rfl)
        have y5 := cell_keep hb1 (b5 5 _ rfl)
        have y6 := cell_keep hb1 (b5 6 _ rfl)
        have y7 := cell_keep hb1 (b5 7 _ rfl)
        have y8 := cell_keep hb1 (b5 8 _ rfl)
        have y9 := cell_keep hb1 (b5 9 _ rfl)
        rw [Nat.add_zero] at y0
        obtain ⟨V2, hV2⟩ : ∃ z, V1.alloc (.cells (gnC y (.slice K2 y.kids.length c2)).toArray 41) = z := ⟨_, rfl⟩
        have hb2 : Below V1.heap.size V1 V2 := by rw [← hV2]; exact (Below.refl _ _).alloc (Nat.le_refl _) _
        have hbV : Below V.heap.size V V2 := below_step hb1 hb2
        have hs1 : V1.heap.size = V.heap.size + 1 := by rw [← hV1]; simp
        have bx1 : Box V2 V.heap.size (gnC x (.slice K1 x.kids.length c1)) := (by rw [← hV1]; exact Box.new V _ : Box V1 V.heap.size _).below hb2
        have bx2 : Box V2 (V.heap.size + 1) (gnC y (.slice K2 y.kids.length c2)) := by rw [← hs1, ← hV2]; exact Box.new V1 _
        have CN : Hid (∀ U, Below V2.heap.size V2 U → Calls Try.prog 48 #[.agg (gnC x (.slice K1 x.kids.length c1)).toArray, .agg (gnC y (.slice K2 y.kids.length c2)).toArray] U (AnsB U (SameG x y))) := fun U hU =>
          snode_at x y rfl rfl (HK.out.1 x (List.mem_of_getElem? hx)) (HK.out.2 y (List.mem_of_getElem? hy)) ((a4.below hbV).below hU) ((b4.below hbV).below hU)
        have HXY := Lib.hid (And.intro hx (And.intro hy (And.intro bx1 (And.intro bx2 (below_step HQ.out.1 hbV)))))
        have gx : gnC x (.slice K1 x.kids.length c1) = [.int .i64 x.kind, .int .i64 x.style, .string x.tag, .string x.anchor, .string x.value, .int .i64 x.st, .int .i64 x.en, .int .i64 x.hd, .int .i64 x.mr, .slice K1 x.kids.length c1] := rfl
        have gy : gnC y (.slice K2 y.kids.length c2) = [.int .i64 y.kind, .int .i64 y.style, .string y.tag, .string y.anchor, .string y.value, .int .i64 y.st, .int .i64 y.en, .int .i64 y.hd, .int .i64 y.mr, .slice K2 y.kids.length c2] := rfl
        rw [gx] at hV1
        rw [gy] at hV2
        clear hx hy a4 b4 a5 b5 hb1 hb2 hbV bx1 bx2 gx gy
        go_upto_region 7 with fail
        clear hV1 hV2 x0 x1 x2 x3 x4 x5 x6 x7 x8 x9 y0 y1 y2 y3 y4 y5 y6 y7 y8 y9 hs1
        have X0 := HXY.out.2.2.1.cell 0 _ rfl
        have Y0 := HXY.out.2.2.2.1.cell 0 _ rfl
        have X1 := HXY.out.2.2.1.cell 1 _ rfl
        have Y1 := HXY.out.2.2.2.1.cell 1 _ rfl
        have X2 := HXY.out.2.2.1.cell 2 _ rfl
        have Y2 := HXY.out.2.2.2.1.cell 2 _ rfl
        have X3 := HXY.out.2.2.1.cell 3 _ rfl
        have Y3 := HXY.out.2.2.2.1.cell 3 _ rfl
        have X4 := HXY.out.2.2.1.cell 4 _ rfl
        have Y4 := HXY.out.2.2.2.1.cell 4 _ rfl
        have X5 := HXY.out.2.2.1.cell 5 _ rfl
        have Y5 := HXY.out.2.2.2.1.cell 5 _ rfl
        have X6 := HXY.out.2.2.1.cell 6 _ rfl
        have Y6 := HXY.out.2.2.2.1.cell 6 _ rfl
        have X7 := HXY.out.2.2.1.cell 7 _ rfl
        have Y7 := HXY.out.2.2.2.1.cell 7 _ rfl
        have X8 := HXY.out.2.2.1.cell 8 _ rfl
        have Y8 := HXY.out.2.2.2.1.cell 8 _ rfl
        have X9 := HXY.out.2.2.1.cell 9 _ rfl
        have Y9 := HXY.out.2.2.2.1.cell 9 _ rfl
        go_wp2_with fail
        refine (CN.out V2 (Below.refl _ _)).mono ?_
        rintro e V3 ⟨b, rfl, hb, hbb⟩
        have HB := Lib.hid (And.intro hb hbb)
        clear hb hbb X0 X1 X2 X3 X4 X5 X6 X7 X8 X9 Y0 Y1 Y2 Y3 Y4 Y5 Y6 Y7 Y8 Y9
        cases b with
        | true =>
          go_wp2_with fail
          go_roundw
          case rel =>
            refine ⟨k + 1, by omega, by go_num, below_step HXY.out.2.2.2.2 HB.out.2, fun j x' y' hj hx' hy' => ?_⟩
            by_cases e : j = k
            · subst e
              rw [HXY.out.1] at hx'
              rw [HXY.out.2.1] at hy'
              injection hx' with hx'
              injection hy' with hy'
              subst hx' hy'
              exact HB.out.1.1 (by trivial)
            · exact HQ.out.2 j x' y' (by omega) hx' hy'
          case measure => simp [intOf]; omega
        | false =>
          go_wp2_with fail
          go_ret
          refine ⟨false, rfl, ⟨fun h => (by cases h), fun h => ?_⟩, below_step HXY.out.2.2.2.2 HB.out.2⟩
          have := HB.out.1.2 (h.2 k x y HXY.out.1 HXY.out.2.1)
          cases this
      · obtain rfl : k = n := by omega
        go_wp2
        go_ret
        refine ⟨true, rfl, ⟨fun _ => ⟨by rw [HL.out.1, HL.out.2], fun i x y hx hy => HQ.out.2 i x y (by have := (List.getElem?_eq_some_iff.1 hx).1; rw [HL.out.1] at this; exact this) hx hy⟩, fun _ => rfl⟩, HQ.out.1⟩
  · have hne : ¬ SameL l l' := fun h => hnm (by rw [← hl1, ← hl2, h.1])
    have hnm2 : ¬ (n : Int) = (m : Int) := by omega
    clear h1 h2 hl1 hl2 hk1 hk2
    go_enter Try.func47, Try.ntmps47
    go_wp2
    go_ret
    exact ⟨false, rfl, ⟨fun h => (by cases h), fun h => absurd h hne⟩, Below.refl _ _⟩
set_option maxHeartbeats 1000000 in
/-- The same tree, whatever styles and places. -/
theorem treeSame_at {W : World} {A B : Option Addr} {n c m d : Nat} {l l' : List Gn} (h1 : GL W A n c l) (h2 : GL W B m d l') (hn : n ≤ 1000000) (hn2 : m ≤ 1000000) (hk1 : ∀ x ∈ l, x.kids.length ≤ 1000000) (hk2 : ∀ x ∈ l', x.kids.length ≤ 1000000) :
    Calls Try.prog 16 #[.slice A n c, .slice B m d] W (AnsB W (SameL l l')) := by
  have C := Lib.hid (tsame_at h1 h2 hn hn2 hk1 hk2)
  clear h1 h2 hk1 hk2
  go_enter Try.func16, Try.ntmps16
  go_wp2_with fail
  refine C.out.mono ?_
  rintro e w' ⟨b, rfl, hb⟩
  have H := Lib.hid hb
  clear hb
  go_wp2_with fail
  go_ret
  exact ⟨b, rfl, H.out⟩
theorem planIn_in {w W : World} {A1 A2 : Option Addr} {n1 c1 n2 c2 : Nat} (h : PlanIn w A1 n1 c1 A2 n2 c2) (hb : Below w.heap.size w W) : PlanIn W A1 n1 c1 A2 n2 c2 := by
  refine ⟨fun h0 => ?_, fun h0 => ?_, h.le1, h.max1, h.le2, h.max2⟩
  · obtain ⟨b, off, e, hk⟩ := h.num h0
    exact ⟨b, off, e, fun k hk' => by obtain ⟨z, hz, hc⟩ := hk k hk'; exact ⟨z, cell_keep hb hz, hc⟩⟩
  · obtain ⟨b, off, e, hk⟩ := h.txt h0
    exact ⟨b, off, e, fun k hk' => by obtain ⟨z, hz, hc⟩ := hk k hk'; exact ⟨z, cell_keep hb hz, hc⟩⟩
/-- A list that is a tree of a moderate size. -/
structure TreeOk (l : List Nd) : Prop where
  tree : Trd (lkp 0 l) 64 0 l.length
  pos : 0 < l.length
  len : l.length ≤ 65537
  kids : ∀ x ∈ l, x.kids.length ≤ 65537
theorem Trd.up {f : Nat → Option Nd} : ∀ {d i e : Nat}, Trd f d i e → Trd f (d + 1) i e
  | 0, i, e, ⟨x, h1, h2, h3⟩ => ⟨x, h1, .inl ⟨h2, h3⟩⟩
  | d + 1, i, e, ⟨x, h1, h⟩ => by
    refine ⟨x, h1, ?_⟩
    rcases h with h | ⟨h2, h3⟩
    · exact .inl h
    · exact .inr ⟨h2, h3.imp fun k e g => Trd.up g⟩
theorem parse_tree {b : List Int} {l : List Nd} (h : inParse b true = .ok l) : TreeOk l := by
  unfold inParse at h
  split at h
  · rename_i ht
    have hlen : b.length ≤ 65536 := by
      unfold inText at ht
      simp only [Bool.and_eq_true, beq_iff_eq] at ht
      exact rchk_y b ht.1
    cases hn : inNode 64 b true 0 0 with
    | error e => rw [hn] at h; cases h
    | ok y =>
      obtain ⟨l', n⟩ := y
      rw [hn] at h
      dsimp only at h
      split at h
      · cases h
      · simp only [Except.ok.injEq] at h
        subst h
        have hz := node_size b 64 true 0 0 _ _ (Nat.zero_le _) hn
        have hk := node_lens b 64 true 0 0 _ _ hn
        have h1 := hz.2.1
        have h2 := hz.2.2.2.1
        have h3 := hz.2.2.1
        have ht := node_tr b 64 true 0 0 _ _ hn
        rw [Nat.zero_add] at ht
        exact ⟨ht, by omega, by omega, fun x hx => by have := hk x hx; omega⟩
  · cases h
def oneX : Nd := ⟨1, 0, [33, 33, 115, 116, 114], [], [120], 0, 1, 0, 0, []⟩
theorem oneX_tree : TreeOk [oneX] := ⟨⟨oneX, rfl, .inl ⟨rfl, rfl⟩⟩, by simp, by simp, fun x hx => by simp only [List.mem_singleton] at hx; subst hx; simp [oneX]⟩
def TreeP (W : World) (r : Except Int (List Nd)) (e : Ending) (W' : World) : Prop :=
  match r with
  | .error q => e = .returned (.slice none 0 0) ∧ Below W.heap.size W W'
  | .ok l => ∃ v P, e = .returned v ∧ Nds W.heap.size W' v P ∧ lst P = l ∧ Below W.heap.size W W'
theorem tree_at (W : World) (u : ByteArray) (hu : u.size ≤ 1000000) (r : Except Int (List Nd)) (hr : inParse (byt u) true = r) :
    Calls Try.prog 37 #[.string u, .bool true] W (TreeP W r) := by
  have C := Lib.hid (rparse_at W u hu true r hr)
  clear hr
  go_enter Try.func37, Try.ntmps37
  go_wp2_with fail
  refine C.out.mono ?_
  clear C
  intro e W1 h1
  cases r with
  | error q =>
    obtain ⟨rfl, hb, hq⟩ := h1
    have hne : (q != 0) = true := bne_iff_ne.2 hq
    have HB := Lib.hid hb
    clear hb hq
    go_wp2_with fail
    go_ret
    exact ⟨rfl, HB.out⟩
  | ok l =>
    obtain ⟨v, P, rfl, hN, hl, hb⟩ := h1
    have HN := Lib.hid (And.intro hN (And.intro hl hb))
    obtain ⟨A, c, rfl, _⟩ := own_form hN.row
    clear hN hl hb
    go_wp2_with fail
    go_ret
    exact ⟨_, P, rfl, HN.out.1, HN.out.2.1, HN.out.2.2⟩
theorem loadP_exec (o : Oper) (x : Operand) (ho : o.op = .load 25 x) (a : Act) (V : World) (g : Nat) (v0 v1 : Value) (hx : a.eval x = .pointer (some ⟨g, 0, none⟩)) (c0 : V.cell? ⟨g, 0, none⟩ = some v0) (c1 : V.cell? ⟨g, 1, none⟩ = some v1) : (execOp a.eval o).run Try.prog V = .ok (.value (.agg #[v0, v1])) V := by
  unfold execOp
  simp only [ho, hx]
  simp [go_sem, c0, c1]
theorem made_run (a : Act) (o : Oper) (x : Operand) (T : Array TypeId) (ho : o.op = .call { callee := .value (.func 7), args := #[x], argTypes := T }) (vx : Value) (hx : a.eval x = vx) (w : World) :
    (execOp a.eval o).run Try.prog w = .ok (.enter 7 #[vx]) w := by
  have hn : (Try.f7.name == "runtime.NumGoroutine") = false := by kernel_rfl
  have hb : Try.f7.body.isNone = false := by kernel_rfl
  have hf : a.eval (.func 7) = .func (.func 7) #[] #[] := rfl
  have hn' : ¬ (Try.f7.name = "runtime.NumGoroutine") := by simpa using hn
  have hb' : ¬ (Try.f7.body = none) := by
    intro h
    rw [h] at hb
    cases hb
  unfold execOp
  simp [ho, resolve, Deferred.ofValue, hf, hx, invoke, callFunc, run_program, Try.func7]
  rw [if_neg hn', if_neg hb']
theorem cnan_at (x : Int) (W : World) : Calls Try.prog 81 #[.int .i64 x] W fun e w' => e = .returned (.bool false) ∧ W = w' := by
  go_enter Try.func81, Try.ntmps81
  go_wp2
  go_ret
  exact ⟨by simp, by trivial⟩
theorem snan_at (x : Int) (W : World) : Calls Try.prog 69 #[.int .i64 x] W fun e w' => e = .returned (.bool false) ∧ W = w' := by
  go_enter Try.func69, Try.ntmps69
  go_wp2
  go_ret
  exact ⟨by simp, by trivial⟩
theorem cless_at (x y : Int) (W : World) : Calls Try.prog 68 #[.int .i64 x, .int .i64 y] W fun e w' => e = .returned (.bool (decide (x < y))) ∧ W = w' := by
  go_enter Try.func68, Try.ntmps68
  go_wp2_with fail
  refine (cnan_at x W).mono ?_
  rintro e w' ⟨rfl, rfl⟩
  go_wp2_with fail
  go_ret
  exact ⟨rfl, by trivial⟩
/-- Where x stands among the ks, or would stand. -/
def BsP (W : World) (n : Nat) (ks : List Int) (x : Int) (e : Ending) (w' : World) : Prop := ∃ (p : Nat) (b : Bool), e = .returned (.tuple #[.int .i64 (p : Int), .bool b]) ∧ p ≤ n ∧ (∀ t k, t < p → ks[t]? = some k → k < x) ∧ (∀ t k, p ≤ t → ks[t]? = some k → x ≤ k) ∧ (b = true ↔ ks[p]? = some x) ∧ W = w'
set_option maxHeartbeats 4000000 in
theorem bsearch_at {W : World} {A : Option Addr} {n c : Nat} {ks : List Int} {x : Int} (hl : ks.length = n) (h0 : 0 < n) (hn : n ≤ 1000000) (hr : RdC W A (ki ks)) (hs : ∀ (a b : Nat) (u v : Int), a ≤ b → ks[a]? = some u → ks[b]? = some v → u ≤ v) :
    Calls Try.prog 50 #[.slice A n c, .int .i64 x] W (BsP W n ks x) := by
  obtain ⟨g, o, rfl, hc⟩ := hr.addr (by rw [ki_len]; omega)
  have HC := Lib.hid hc
  have HS := Lib.hid hs
  have HL := Lib.hid hl
  clear hr hc hs hl
  go_enter Try.func50, Try.ntmps50
  go_wp2
  go_loopg [7, 8] n (fun q s7 s8 V => ∃ lo hi : Nat, s7 = .int .i64 (lo : Int) ∧ s8 = .int .i64 (hi : Int) ∧ lo ≤ hi ∧ hi ≤ n ∧ hi - lo ≤ q ∧ W = V ∧ Hid ((∀ t k, t < lo → ks[t]? = some k → k < x) ∧ (∀ t k, hi ≤ t → ks[t]? = some k → x ≤ k)))
  case atStart => exact ⟨0, n, rfl, rfl, Nat.zero_le _, Nat.le_refl _, by omega, rfl, fun t k h => by omega, fun t k h1 h2 => by have := (List.getElem?_eq_some_iff.1 h2).1; rw [HL.out] at this; omega⟩
  case round =>
    obtain ⟨lo, hi, rfl, rfl, h1, h2, hg, rfl, HI⟩ := hrel
    by_cases hlt : lo < hi
    · obtain ⟨k, hk⟩ : ∃ z, ks[(lo + hi) / 2]? = some z := ⟨ks[(lo + hi) / 2]'(by rw [HL.out]; omega), List.getElem?_eq_getElem _⟩
      have cm : W.cell? ⟨g, o + (lo + hi) / 2, none⟩ = some (.int .i64 k) := HC.out _ _ (ki_at hk)
      have HK := Lib.hid hk
      clear hk
      by_cases hkx : k < x
      · have d1 : decide (k < x) = true := decide_eq_true hkx
        go_wp2_with fail
        refine (cless_at k x W).mono ?_
        rintro e w' ⟨rfl, rfl⟩
        rw [d1]
        go_wp2_with fail
        go_roundg (hi - ((lo + hi) / 2 + 1))
        case measure => omega
        case rel =>
          refine ⟨(lo + hi) / 2 + 1, hi, by rw [show ((lo : Int) + (hi : Int)) / 2 + 1 = (((lo + hi) / 2 + 1 : Nat) : Int) by omega], rfl, by omega, h2, Nat.le_refl _, by trivial, fun t k' ht hk' => ?_, HI.out.2⟩
          have := HS.out t _ _ _ (by omega) hk' HK.out
          omega
      · have d1 : decide (k < x) = false := decide_eq_false hkx
        go_wp2_with fail
        refine (cless_at k x W).mono ?_
        rintro e w' ⟨rfl, rfl⟩
        rw [d1]
        go_wp2_with fail
        go_roundg ((lo + hi) / 2 - lo)
        case measure => omega
        case rel =>
          refine ⟨lo, (lo + hi) / 2, rfl, by rw [show ((lo : Int) + (hi : Int)) / 2 = (((lo + hi) / 2 : Nat) : Int) by omega], by omega, by omega, Nat.le_refl _, by trivial, HI.out.1, fun t k' ht hk' => ?_⟩
          have := HS.out _ t _ _ ht HK.out hk'
          omega
    · obtain rfl : hi = lo := by omega
      by_cases hlen : hi < n
      · obtain ⟨k, hk⟩ : ∃ z, ks[hi]? = some z := ⟨ks[hi]'(by rw [HL.out]; omega), List.getElem?_eq_getElem _⟩
        have cm : W.cell? ⟨g, o + hi, none⟩ = some (.int .i64 k) := HC.out _ _ (ki_at hk)
        have HK := Lib.hid hk
        have dn : (hi : Int) < (n : Int) := by omega
        clear hk
        by_cases hkx : k = x
        · subst hkx
          go_wp2_with fail
          go_ret2
          exact ⟨hi, true, by simp, h2, HI.out.1, HI.out.2, by simp [HK.out], by trivial⟩
        · have hkx' : (k == x) = false := by rw [beq_eq_false_iff_ne]; exact hkx
          go_wp2_with fail
          refine (snan_at k W).mono ?_
          rintro e w' ⟨rfl, rfl⟩
          go_wp2_with fail
          go_ret2
          exact ⟨hi, false, rfl, h2, HI.out.1, HI.out.2, by rw [HK.out]; simp [hkx], by trivial⟩
      · have dn : ¬ (hi : Int) < (n : Int) := by omega
        go_wp2_with fail
        go_ret2
        exact ⟨hi, false, rfl, h2, HI.out.1, HI.out.2, by rw [List.getElem?_eq_none (by rw [HL.out]; omega)]; simp, by trivial⟩
/-- Whose Kid a node is. -/
def ParP (W : World) (l : List Gn) (a : Int) (e : Ending) (w' : World) : Prop :=
  W = w' ∧ ((¬ (0 < a ∧ a < (l.length : Int)) ∧ e = .returned (.tuple #[.int .i64 (-1), .int .i64 (-1)])) ∨ (0 < a ∧ a < (l.length : Int) ∧ ∃ (q j : Nat) (x : Gn), e = .returned (.tuple #[.int .i64 (q : Int), .int .i64 (j : Int)]) ∧ (q : Int) < a ∧ l[q]? = some x ∧ x.kids[j]? = some a))
set_option maxHeartbeats 8000000 in
theorem parent_at {W : World} {A : Option Addr} {n cap : Nat} {l : List Gn} {E : Nat → Nat} (hL : GL W A n cap l) (hS : Small l) (hE : GE l E) (hn : n ≤ 1000000) (a : Int) :
    Calls Try.prog 18 #[.slice A n cap, .int .i64 a] W (ParP W l a) := by
  have hle := hL.le
  have hmx := hL.max
  have hlen := hL.len
  by_cases h0 : a = 0
  · subst h0
    go_enter Try.func18, Try.ntmps18
    go_wp2_with fail
    go_ret2
    exact ⟨rfl, .inl ⟨by omega, rfl⟩⟩
  · have d0 : (a == 0) = false := by rw [beq_eq_false_iff_ne]; exact h0
    have CW := Lib.hid (within_at W A n cap hle hmx a)
    by_cases hin : 0 < a ∧ a < (n : Int)
    · obtain ⟨a0, rfl⟩ : ∃ a0 : Nat, a = (a0 : Int) := ⟨a.toNat, by omega⟩
      have dn : decide ((0 : Int) ≤ (a0 : Int)) = true := decide_eq_true (by omega)
      have dn2 : decide ((a0 : Int) < (n : Int)) = true := decide_eq_true (by omega)
      rw [dn, dn2] at CW
      have hE0 : E 0 = n := by have := hE.ends.root; rw [List.length_map] at this; omega
      have HL := Lib.hid hL
      have HS := Lib.hid hS
      have HE := Lib.hid hE
      have HE0 := Lib.hid hE0
      have HN := Lib.hid hlen
      clear hL hS hE hE0 dn dn2 hlen
      go_enter Try.func18, Try.ntmps18
      go_wp2_with fail
      refine CW.out.mono ?_
      rintro e w2 ⟨rfl, rfl⟩
      clear CW
      go_wp2_with fail
      go_loopw [4] (fun u V => ∃ p : Nat, u = .int .i64 (p : Int) ∧ W = V ∧ p < n ∧ p < a0 ∧ Hid (a0 < E p)) (fun u _ => n - (intOf u).toNat)
      case atStart => exact ⟨0, rfl, rfl, by omega, by omega, by show a0 < E 0; rw [HE0.out]; omega⟩
      case round =>
        obtain ⟨p, rfl, rfl, hpn, hpa, HP⟩ := hrel
        obtain ⟨x, hx⟩ : ∃ x, l[p]? = some x := ⟨l[p]'(by rw [HN.out]; omega), List.getElem?_eq_getElem _⟩
        obtain ⟨g, o, rfl, K, c, k1, k2, k3, hkr, hc⟩ := HL.out.at_ p x hx
        obtain ⟨s1, s2⟩ := HS.out x (List.mem_of_getElem? hx)
        have y9 := hc 9 _ rfl
        have hk0 : 0 < x.kids.length := by
          rcases Nat.eq_zero_or_pos x.kids.length with e | e
          · have hr := HE.out.row hx
            rw [List.eq_nil_of_length_eq_zero e] at hr
            have : p + 1 = E p := hr
            have := HP.out
            omega
          · exact e
        have dp : (p : Int) < (n : Int) := by omega
        obtain ⟨kl, hkl⟩ : ∃ z, x.kids.length = z := ⟨_, rfl⟩
        obtain ⟨kg, ko, rfl, hkc⟩ := hkr.addr (by rw [ki_len]; omega)
        have CB := Lib.hid (bsearch_at (W := W) (c := c) (x := (a0 : Int)) hkl (by omega) (by omega) hkr (fun a b u v h h1 h2 => HE.out.kids_up hx b a u v h h1 h2))
        rw [hkl] at y9 k1 s1 hk0
        have HX := Lib.hid (And.intro hx (And.intro hkl hkc))
        clear hx hc hkr hkl hkc s2
        go_wp2_with fail
        refine CB.out.mono ?_
        clear CB
        rintro e w3 ⟨c1, b, rfl, b1, b2, b3, b4, rfl⟩
        cases b with
        | true =>
          have hf := b4.1 rfl
          have HF := Lib.hid hf
          clear b2 b3 b4 hf
          go_wp2_with fail
          go_ret2
          exact ⟨by trivial, .inr ⟨by omega, by rw [HN.out]; omega, p, c1, x, rfl, by omega, HX.out.1, HF.out⟩⟩
        | false =>
          have hne : x.kids[c1]? ≠ some (a0 : Int) := fun h => by have := b4.2 h; cases this
          obtain ⟨r0, k, r1, r2, r3, r4, r5⟩ := HE.out.down HX.out.1 hpa HP.out (by rw [HX.out.2.1]; exact b1) b2 b3 hne
          have d1 : ((c1 : Int) == 0) = false := by rw [beq_eq_false_iff_ne]; omega
          obtain ⟨q, rfl⟩ : ∃ q, c1 = q + 1 := ⟨c1 - 1, by omega⟩
          rw [Nat.add_sub_cancel] at r1
          have cq : W.cell? ⟨kg, ko + q, none⟩ = some (.int .i64 (k : Int)) := HX.out.2.2 _ _ (ki_at r1)
          have HR := Lib.hid (And.intro r2 (And.intro r4 r5))
          have dle : decide ((k : Int) ≤ (p : Int)) = false := decide_eq_false (by omega)
          have dle2 : ¬ k ≤ p := by omega
          have dle3 : decide (k ≤ p) = false := decide_eq_false dle2
          have d2 : ((q : Int) + 1 == 0) = false := by rw [beq_eq_false_iff_ne]; omega
          rw [HN.out] at r4
          clear b2 b3 b4 hne r1 r5
          have dq : ((q + 1 : Nat) : Int) - 1 = (q : Int) := by omega
          go_wp2_with fail
          all_goals exact ⟨⟨k, rfl, by trivial, r4, r3, HR.out.2.2⟩, by simp [intOf]; omega⟩
    · have hd : (decide (0 ≤ a) && decide (a < (n : Int))) = false := by
        rw [Bool.and_eq_false_iff, decide_eq_false_iff_not, decide_eq_false_iff_not]
        omega
      rw [hd] at CW
      clear hL hS hE
      go_enter Try.func18, Try.ntmps18
      go_wp2_with fail
      refine CW.out.mono ?_
      rintro e w2 ⟨rfl, rfl⟩
      clear CW
      go_wp2_with fail
      go_ret2
      exact ⟨by trivial, .inl ⟨by rw [hlen]; omega, rfl⟩⟩
def wkG (kd : Int) (ks : List Int) : Gn := ⟨kd, 0, ⟨#[]⟩, ⟨#[]⟩, ⟨#[]⟩, 0, 0, 0, 0, ks⟩
def wkL : List Gn := [wkG 2 [1], wkG 2 [2], wkG 1 []]
theorem wk_valid : tValidF wkL = true := by decide
theorem wk_depth : depthF wkL = 2 := by decide
theorem wk_nil : tValidF [] = false := by decide
set_option maxHeartbeats 4000000 in
theorem twakes_at (W : World) : Calls Try.prog 20 #[] W fun e w' => e = .returned (.bool true) ∧ Below W.heap.size W w' := by
  obtain ⟨S, hS⟩ : ∃ z, W.heap.size = z := ⟨_, rfl⟩
  obtain ⟨W1, hW1⟩ : ∃ z, W.alloc (.cells #[.int .i64 1] 3) = z := ⟨_, rfl⟩
  obtain ⟨W2, hW2⟩ : ∃ z, W1.alloc (.cells #[.int .i64 2] 3) = z := ⟨_, rfl⟩
  obtain ⟨W3, hW3⟩ : ∃ z, W2.alloc (.cells #[.int .i64 2, .int .i64 0, .string ⟨#[]⟩, .string ⟨#[]⟩, .string ⟨#[]⟩, .int .i64 0, .int .i64 0, .int .i64 0, .int .i64 0, .slice (some ⟨S, 0, none⟩) 1 1, .int .i64 2, .int .i64 0, .string ⟨#[]⟩, .string ⟨#[]⟩, .string ⟨#[]⟩, .int .i64 0, .int .i64 0, .int .i64 0, .int .i64 0, .slice (some ⟨S + 1, 0, none⟩) 1 1, .int .i64 1, .int .i64 0, .string ⟨#[]⟩, .string ⟨#[]⟩, .string ⟨#[]⟩, .int .i64 0, .int .i64 0, .int .i64 0, .int .i64 0, .slice none 0 0] 41) = z := ⟨_, rfl⟩
  have s1 : W1.heap.size = S + 1 := by rw [← hW1, ← hS]; simp
  have s2 : W2.heap.size = S + 1 + 1 := by rw [← hW2, ← s1]; simp
  have b1 : Below W.heap.size W W1 := by rw [← hW1]; exact (Below.refl _ _).alloc (Nat.le_refl _) _
  have b2 : Below W1.heap.size W1 W2 := by rw [← hW2]; exact (Below.refl _ _).alloc (Nat.le_refl _) _
  have b3 : Below W2.heap.size W2 W3 := by rw [← hW3]; exact (Below.refl _ _).alloc (Nat.le_refl _) _
  have r1 : RdC W3 (some ⟨S, 0, none⟩) (ki [1]) := by
    have : RdC W1 (some ⟨S, 0, none⟩) (ki [1]) := by rw [← hW1]; exact RdC.new hS.symm (fun k v hv => by simpa [ki] using hv)
    exact this.below (below_step b2 b3)
  have r2 : RdC W3 (some ⟨S + 1, 0, none⟩) (ki [2]) := by
    have : RdC W2 (some ⟨S + 1, 0, none⟩) (ki [2]) := by rw [← hW2]; exact RdC.new s1.symm (fun k v hv => by simpa [ki] using hv)
    exact this.below b3
  have hcell : ∀ k, W3.cell? ⟨S + 1 + 1, k, none⟩ = (gksC [(wkG 2 [1], .slice (some ⟨S, 0, none⟩) 1 1), (wkG 2 [2], .slice (some ⟨S + 1, 0, none⟩) 1 1), (wkG 1 [], .slice none 0 0)])[k]? := fun k => by
    rw [← hW3, ← s2, World.cell?_alloc_mark]
    show (List.toArray _)[k]? = _
    rw [List.getElem?_toArray]
    rfl
  have hgl : GL W3 (some ⟨S + 1 + 1, 0, none⟩) 3 3 wkL := by
    refine ⟨rfl, Nat.le_refl _, by omega, fun e => by (cases e), fun i x hx => ⟨_, _, rfl, ?_⟩⟩
    have cells : ∀ (v : Value), [((wkG 2 [1], .slice (some ⟨S, 0, none⟩) 1 1) : GK), (wkG 2 [2], .slice (some ⟨S + 1, 0, none⟩) 1 1), (wkG 1 [], .slice none 0 0)][i]? = some (x, v) → ∀ (j : Nat) (u : Value), (gnC x v)[j]? = some u → W3.cell? ⟨S + 1 + 1, 0 + i * 10 + j, none⟩ = some u := by
      intro v hv j u hu
      rw [hcell, Nat.zero_add, gksC_at _ i j _ hv (by have := (List.getElem?_eq_some_iff.1 hu).1; exact this)]
      exact hu
    match i, hx, cells with
    | 0, hx, cells =>
      injection hx with hx; subst hx
      exact ⟨some ⟨S, 0, none⟩, 1, by decide, by omega, fun e => by (cases e), r1, cells _ rfl⟩
    | 1, hx, cells =>
      injection hx with hx; subst hx
      exact ⟨some ⟨S + 1, 0, none⟩, 1, by decide, by omega, fun e => by (cases e), r2, cells _ rfl⟩
    | 2, hx, cells =>
      injection hx with hx; subst hx
      exact ⟨none, 0, by decide, by omega, fun _ => rfl, RdC.nil _ _, cells _ rfl⟩
    | i + 3, hx, cells => simp [wkL] at hx
  have hsm : Small wkL := by
    intro x hx
    simp only [wkL, List.mem_cons, List.not_mem_nil, or_false] at hx
    rcases hx with rfl | rfl | rfl <;> simp [wkG]
  have HB : Hid (Below W.heap.size W W3) := below_step b1 (below_step b2 b3)
  have HV := Lib.hid (gvalid_at hgl (fun x hx => (hsm x hx).1) (by omega))
  have HD : Hid (∀ V, Below W3.heap.size W3 V → Calls Try.prog 14 #[.slice (some ⟨S + 1 + 1, 0, none⟩) 3 3] V fun e w' => e = .returned (.int .i64 2) ∧ Below V.heap.size V w') := fun V hV => by
    have := tdepth_at (hgl.below hV) hsm (by omega)
    rw [wk_depth] at this
    exact this
  have HN : Hid (∀ V : World, Calls Try.prog 23 #[.slice none 0 0] V fun e w' => e = .returned (.bool false) ∧ Below V.heap.size V w') := fun V => by
    have := gvalid_at (W := V) (A := none) (n := 0) (cap := 0) (l := []) ⟨rfl, Nat.le_refl _, by omega, fun _ => rfl, fun i x hx => by simp at hx⟩ (fun x hx => by simp at hx) (by omega)
    rw [wk_nil] at this
    exact this
  rw [wk_valid] at HV
  clear r1 r2 hcell hgl hsm b1 b2 b3
  go_enter Try.func20, Try.ntmps20
  go_upto_region 2 with fail
  clear hW1 hW2 hW3 hS s1 s2
  go_wp2_with fail
  refine HV.out.mono ?_
  rintro e w4 ⟨rfl, h4⟩
  have H4 := Lib.hid h4
  clear h4
  go_wp2_with fail
  refine (HD.out w4 H4.out).mono ?_
  rintro e w5 ⟨rfl, h5⟩
  have H5 := Lib.hid h5
  clear h5
  go_wp2_with fail
  refine (HN.out w5).mono ?_
  rintro e w6 ⟨rfl, h6⟩
  have H6 := Lib.hid h6
  clear h6
  go_wp2_with fail
  go_ret
  exact ⟨rfl, below_step (below_step (below_step HB.out H4.out) H5.out) H6.out⟩
end Go.Proofs.Ytcddlconcngjlaa
