/- Same of numbers, Node, Nodes: two lists that are told alike are the same. · Nodes: two lists that are told alike are the same. -/
import Derived.Test.YtcnnbbgfmilblaaMJ
import Derived.Test.YtcnnbbgfmilblaaMG
set_option linter.unusedSimpArgs false
set_option linter.unusedVariables false
/-! ### KpNode -/
namespace Go.Proofs.Ytcnnbbgfmilblaa
open Go.RowKit
set_option linter.unusedVariables false
set_option linter.unusedSimpArgs false
set_option maxRecDepth 100000

set_option maxHeartbeats 1000000 in
theorem sameI_at (A B : Option Addr) (n c d : Nat) (ks : List Nat) (w W : World) (hl : ks.length = n) (hn : n ≤ 1000000000) (hnc : n ≤ c) (hnd : n ≤ d) (ha : RdC W A (kidC ks)) (hb : RdC W B (kidC ks)) (hw : Below w.heap.size w W) :
    Calls Try.prog 43 #[.slice A n c, .slice B n d] W fun e w' => e = .returned (.bool true) ∧ ∃ m, w' = W.drewN m := by
  subst hl
  have HA := Lib.hid ha
  have HB := Lib.hid hb
  clear ha hb hw
  go_enter Try.func43, Try.ntmps43
  go_wp2
  go_loopw [5] (fun i V => ∃ (k m : Nat), k ≤ ks.length ∧ i = .int .i64 (k : Int) ∧ V = W.drewN m) (fun i _ => ks.length - (intOf i).toNat)
  case atStart => exact ⟨0, 0, by omega, rfl, rfl⟩
  case round =>
    obtain ⟨k, m, hk, rfl, rfl⟩ := hrel
    by_cases hlt : k < ks.length
    · have hdr : Below W.heap.size W (W.drewN m) := below_draws (Below.refl _ _) m
      obtain ⟨b, off, rfl, hc⟩ := (HA.out.below hdr).addr (by simp [kidC]; omega)
      obtain ⟨b', off', rfl, hc'⟩ := (HB.out.below hdr).addr (by simp [kidC]; omega)
      have c1 := hc k _ (kidC_at ks k hlt)
      have c2 := hc' k _ (kidC_at ks k hlt)
      generalize ks.getD k 0 = x at *
      have d1 : (k : Int) < (ks.length : Int) := by omega
      generalize hV : W.drewN m = V at *
      have HV := Lib.hid hV
      clear hc hc' hdr hV
      go_wp2_with fail
      go_quiet (fail)
      go_wp2
      go_roundw
      case rel =>
        refine ⟨k + 1, m + nq, by omega, by go_num, ?_⟩
        rw [← HV.out]
        simp [World.drewN, Nat.add_assoc]
      case measure => simp [intOf]; omega
    · go_wp2
      go_ret
      exact ⟨rfl, _, rfl⟩
set_option maxHeartbeats 2000000 in
theorem node_same (x : Nd) (A B : Option Addr) (n c d : Nat) (W : World) (hl : x.kids.length = n) (hn : n ≤ 1000000000) (hnc : n ≤ c) (hnd : n ≤ d) (ha : RdC W A (kidC x.kids)) (hb : RdC W B (kidC x.kids)) :
    Calls Try.prog 57 #[.agg (ndC (x, .slice A n c)).toArray, .agg (ndC (x, .slice B n d)).toArray] W fun e w' => e = .returned (.bool true) ∧ Below W.heap.size W w' := by
  obtain ⟨kd, hkd⟩ : ∃ t, x.kind = t := ⟨_, rfl⟩
  obtain ⟨st, hst⟩ : ∃ t, x.style = t := ⟨_, rfl⟩
  obtain ⟨tg, htg⟩ : ∃ t, strOfNums x.tag = t := ⟨_, rfl⟩
  obtain ⟨an, han⟩ : ∃ t, strOfNums x.anchor = t := ⟨_, rfl⟩
  obtain ⟨vl, hvl⟩ : ∃ t, strOfNums x.value = t := ⟨_, rfl⟩
  have hcx : ∀ v : Value, (ndC (x, v)).toArray = #[.int .i64 kd, .int .i64 st, .string tg, .string an, .string vl, .int .i64 (x.st : Int), .int .i64 (x.en : Int), .int .i64 (x.hd : Int), .int .i64 (x.mr : Int), v] := fun v => by
    rw [← htg, ← han, ← hvl, ← hkd, ← hst]; rfl
  rw [hcx, hcx]
  obtain ⟨W1, hW1⟩ : ∃ W1, W.alloc (.cells #[.int .i64 kd, .int .i64 st, .string tg, .string an, .string vl, .int .i64 (x.st : Int), .int .i64 (x.en : Int), .int .i64 (x.hd : Int), .int .i64 (x.mr : Int), .slice A n c] 31) = W1 := ⟨_, rfl⟩
  obtain ⟨W2, hW2⟩ : ∃ W2, W1.alloc (.cells #[.int .i64 kd, .int .i64 st, .string tg, .string an, .string vl, .int .i64 (x.st : Int), .int .i64 (x.en : Int), .int .i64 (x.hd : Int), .int .i64 (x.mr : Int), .slice B n d] 31) = W2 := ⟨_, rfl⟩
  have hb1 : Below W.heap.size W W1 := by rw [← hW1]; exact (Below.refl _ _).alloc (Nat.le_refl _) _
  have hb2 : Below W.heap.size W W2 := by rw [← hW2]; exact hb1.alloc hb1.size _
  have b1 : Box W1 W.heap.size [.int .i64 kd, .int .i64 st, .string tg, .string an, .string vl, .int .i64 (x.st : Int), .int .i64 (x.en : Int), .int .i64 (x.hd : Int), .int .i64 (x.mr : Int), .slice A n c] := by rw [← hW1]; exact Box.new W _
  have b2 : Box W2 W1.heap.size [.int .i64 kd, .int .i64 st, .string tg, .string an, .string vl, .int .i64 (x.st : Int), .int .i64 (x.en : Int), .int .i64 (x.hd : Int), .int .i64 (x.mr : Int), .slice B n d] := by rw [← hW2]; exact Box.new W1 _
  have hs1 : W1.heap.size = W.heap.size + 1 := by rw [← hW1]; simp
  have b1' : Box W2 W.heap.size [.int .i64 kd, .int .i64 st, .string tg, .string an, .string vl, .int .i64 (x.st : Int), .int .i64 (x.en : Int), .int .i64 (x.hd : Int), .int .i64 (x.mr : Int), .slice A n c] := b1.below (by rw [← hW2]; exact (Below.refl _ _).alloc (Nat.le_refl _) _)
  rw [hs1] at b2
  have x0 := b1'.cell 0 _ rfl
  have y0 := b2.cell 0 _ rfl
  have x1 := b1'.cell 1 _ rfl
  have y1 := b2.cell 1 _ rfl
  have x2 := b1'.cell 2 _ rfl
  have y2 := b2.cell 2 _ rfl
  have x3 := b1'.cell 3 _ rfl
  have y3 := b2.cell 3 _ rfl
  have x4 := b1'.cell 4 _ rfl
  have y4 := b2.cell 4 _ rfl
  have x5 := b1'.cell 5 _ rfl
  have y5 := b2.cell 5 _ rfl
  have x6 := b1'.cell 6 _ rfl
  have y6 := b2.cell 6 _ rfl
  have x7 := b1'.cell 7 _ rfl
  have y7 := b2.cell 7 _ rfl
  have x8 := b1'.cell 8 _ rfl
  have y8 := b2.cell 8 _ rfl
  have x9 := b1'.cell 9 _ rfl
  have y9 := b2.cell 9 _ rfl
  have HA := Lib.hid (ha.below hb2)
  have HB := Lib.hid (hb.below hb2)
  have HL := Lib.hid hl
  have HB2 := Lib.hid hb2
  clear hb1 hb2 b1 b2 b1' ha hb hcx hkd hst htg han hvl hl
  have HS : Hid (Calls Try.prog 43 #[.slice A n c, .slice B n d] W2 fun e w' => e = .returned (.bool true) ∧ ∃ m, w' = W2.drewN m) := sameI_at A B n c d x.kids W2 W2 HL.out hn hnc hnd HA.out HB.out (Below.refl _ _)
  go_enter Try.func57, Try.ntmps57
  go_wp2_with fail
  refine HS.out.mono ?_
  rintro e w' ⟨rfl, m, rfl⟩
  go_wp2_with fail
  go_ret
  exact ⟨rfl, below_draws HB2.out m⟩
theorem load10o (o : Oper) (x : Operand) (ho : o.op = .load 31 x) (a : Act) (V : World) (g k : Nat) (v0 v1 v2 v3 v4 v5 v6 v7 v8 v9 : Value) (hx : a.eval x = .pointer (some ⟨g, k, none⟩)) (h : ∀ j v, [v0, v1, v2, v3, v4, v5, v6, v7, v8, v9][j]? = some v → V.cell? ⟨g, k + j, none⟩ = some v) :
    (execOp a.eval o).run Try.prog V = .ok (.value (.agg #[v0, v1, v2, v3, v4, v5, v6, v7, v8, v9])) V := by
  have c0 := h 0 _ rfl
  have c1 := h 1 _ rfl
  have c2 := h 2 _ rfl
  have c3 := h 3 _ rfl
  have c4 := h 4 _ rfl
  have c5 := h 5 _ rfl
  have c6 := h 6 _ rfl
  have c7 := h 7 _ rfl
  have c8 := h 8 _ rfl
  have c9 := h 9 _ rfl
  rw [Nat.add_zero] at c0
  unfold execOp
  simp only [ho, hx]
  simp [go_sem, c0, c1, c2, c3, c4, c5, c6, c7, c8, c9]
theorem ixn_exec (o : Oper) (x y : Operand) (ho : o.op = .indexAddr 26 x y) (a : Act) (V : World) (g m c j : Nat) (hx : a.eval x = .slice (some ⟨g, 0, none⟩) m c) (hy : a.eval y = .int .i64 (j : Int)) (hj : j < m) :
    (execOp a.eval o).run Try.prog V = .ok (.value (.pointer (some ⟨g, j * 10, none⟩))) V := by
  have d1 : (j : Int) < (m : Int) := by omega
  unfold execOp
  simp only [ho, hx, hy]
  simp [go_sem, d1]
end Go.Proofs.Ytcnnbbgfmilblaa
/-! ### KpNodes -/
namespace Go.Proofs.Ytcnnbbgfmilblaa
open Go.RowKit
set_option linter.unusedVariables false
set_option linter.unusedSimpArgs false
set_option maxRecDepth 100000

theorem knode_run (a : Act) (o : Oper) (x y : Operand) (T : Array TypeId) (ho : o.op = .call { callee := .value (.func 57), args := #[x, y], argTypes := T }) (vx vy : Value) (hx : a.eval x = vx) (hy : a.eval y = vy) (w : World) :
    (execOp a.eval o).run Try.prog w = .ok (.enter 57 #[vx, vy]) w := by
  have hn : (Try.f57.name == "runtime.NumGoroutine") = false := by kernel_rfl
  have hb : Try.f57.body.isNone = false := by kernel_rfl
  have hf : a.eval (.func 57) = .func (.func 57) #[] #[] := rfl
  have hn' : ¬ (Try.f57.name = "runtime.NumGoroutine") := by simpa using hn
  have hb' : ¬ (Try.f57.body = none) := by
    intro h
    rw [h] at hb
    cases hb
  unfold execOp
  simp [ho, resolve, Deferred.ofValue, hf, hx, hy, invoke, callFunc, run_program, Try.func57]
  rw [if_neg hn', if_neg hb']
theorem kmove_exec (o : Oper) (x : Operand) (ho : o.op = .move x) (a : Act) (v : Value) (hx : a.eval x = v) (V : World) : (execOp a.eval o).run Try.prog V = .ok (.value v) V := by
  simp [execOp, ho, hx]
theorem knot_exec (o : Oper) (x : Operand) (ho : o.op = .unOp .not 4 x) (a : Act) (b : Bool) (hx : a.eval x = .bool b) (V : World) : (execOp a.eval o).run Try.prog V = .ok (.value (.bool !b)) V := by
  unfold execOp
  simp only [ho, hx]
  simp [go_sem]
theorem kgate_gen {P : Program} {ops : Array Oper} {Q : Exit → Act → World → Prop} {md : Region.Mode} {S : World → Prop} {t n : Nat} {L : Array Bool} {a : Act} {w : World} (h : ∀ a0 : Act, a0 = a → wpGate P md ops Q S t n L a0 w) : wpGate P md ops Q S t n L a w := h a rfl
/-- A node of a list, its ten cells as one value. -/
theorem nds_agg {B : Nat} {W : World} {g m cap : Nat} {P : List NK} (h : Nds B W (.slice (some ⟨g, 0, none⟩) m cap) P) (hm : P.length = m) {j : Nat} {p : NK} (hp : P[j]? = some p) (a : Act) (o : Oper) (x : Operand) (ho : o.op = .load 31 x) (hx : a.eval x = .pointer (some ⟨g, j * 10, none⟩)) (V : World) (hV : Below W.heap.size W V) :
    (execOp a.eval o).run Try.prog V = .ok (.value (.agg (ndC p).toArray)) V := by
  have hV' := h.below hV
  subst hm
  exact load10o o x ho a V g (j * 10) _ _ _ _ _ _ _ _ _ _ hx (fun k v hk => hV'.cell hp k v hk)
set_option maxHeartbeats 4000000 in
theorem nodes_same {B1 B2 : Nat} {W : World} {A1 A2 : Option Addr} {m c1 c2 : Nat} {P Q : List NK} (h1 : Nds B1 W (.slice A1 m c1) P) (h2 : Nds B2 W (.slice A2 m c2) Q) (hm : P.length = m) (hl : lst P = lst Q) (hn : m ≤ 1000000) (hk : ∀ x ∈ lst P, x.kids.length ≤ 1000000) :
    Calls Try.prog 21 #[.slice A1 m c1, .slice A2 m c2] W fun e w' => e = .returned (.bool true) ∧ Below W.heap.size W w' := by
  have hm2 : Q.length = m := by rw [← hm, ← lst_len P, hl, lst_len]
  have H1 := Lib.hid h1
  have H2 := Lib.hid h2
  have HL := Lib.hid hl
  have HK := Lib.hid hk
  have HM := Lib.hid (And.intro hm hm2)
  clear h1 h2 hl hk hm hm2
  go_enter Try.func21, Try.ntmps21
  go_wp2_with fail
  go_loopw [13] (fun i V => ∃ j : Nat, j ≤ m ∧ i = .int .i64 (j : Int) ∧ Hid (Below W.heap.size W V)) (fun i _ => m - (intOf i).toNat)
  case atStart => exact ⟨0, Nat.zero_le _, rfl, Below.refl _ _⟩
  case round =>
    obtain ⟨j, hj, rfl, HB⟩ := hrel
    obtain ⟨V, hV⟩ : ∃ x, x = wr := ⟨_, rfl⟩
    subst hV
    by_cases hlt : j < m
    · have dj : (j : Int) < (m : Int) := by omega
      obtain ⟨g1, rfl⟩ : ∃ g, A1 = some ⟨g, 0, none⟩ := by
        obtain ⟨g, cap, e, _⟩ := H1.out.form (by rw [HM.out.1]; omega)
        simp only [Value.slice.injEq] at e
        exact ⟨g, e.1⟩
      obtain ⟨g2, rfl⟩ : ∃ g, A2 = some ⟨g, 0, none⟩ := by
        obtain ⟨g, cap, e, _⟩ := H2.out.form (by rw [HM.out.2]; omega)
        simp only [Value.slice.injEq] at e
        exact ⟨g, e.1⟩
      obtain ⟨p, hp⟩ : ∃ p, P[j]? = some p := ⟨P[j]'(by rw [HM.out.1]; exact hlt), List.getElem?_eq_getElem _⟩
      obtain ⟨q, hq⟩ : ∃ q, Q[j]? = some q := ⟨Q[j]'(by rw [HM.out.2]; exact hlt), List.getElem?_eq_getElem _⟩
      have hpq : p.1 = q.1 := by
        have e1 : (lst P)[j]? = some p.1 := by simp [lst, hp]
        have e2 : (lst Q)[j]? = some q.1 := by simp [lst, hq]
        rw [HL.out, e2] at e1
        injection e1 with e1
        exact e1.symm
      obtain ⟨x, k1⟩ := p
      obtain ⟨y, k2⟩ := q
      simp only at hpq
      subst hpq
      have hkx : x.kids.length ≤ 1000000 := HK.out x (by rw [lst]; exact List.mem_map.2 ⟨_, List.mem_of_getElem? hp, rfl⟩)
      have o1 := H1.out.kid j _ hp
      have o2 := H2.out.kid j _ hq
      obtain ⟨Ak, ck, e1, hk1, hk2, _⟩ := own_form o1
      obtain ⟨Bk, dk, e2, hk3, hk4, _⟩ := own_form o2
      simp only at e1 e2
      subst e1 e2
      have HN : Hid (∀ U, Below W.heap.size W U → Calls Try.prog 57 #[.agg (ndC (x, .slice Ak x.kids.length ck)).toArray, .agg (ndC (x, .slice Bk x.kids.length dk)).toArray] U fun e w' => e = .returned (.bool true) ∧ Below U.heap.size U w') := fun U hU =>
        node_same x Ak Bk x.kids.length ck dk U rfl (by omega) hk1 hk3 ((RdC.own o1).below hU) ((RdC.own o2).below hU)
      have HP := Lib.hid hp
      have HQ := Lib.hid hq
      clear hp hq o1 o2 hk1 hk2 hk3 hk4 hkx
      obtain ⟨c1v, hc1v⟩ : ∃ v, Value.agg (ndC (x, .slice Ak x.kids.length ck)).toArray = v := ⟨_, rfl⟩
      obtain ⟨c2v, hc2v⟩ : ∃ v, Value.agg (ndC (x, .slice Bk x.kids.length dk)).toArray = v := ⟨_, rfl⟩
      have L1 : Hid (∀ (a : Act) (o : Oper) (z : Operand), o.op = .load 31 z → a.eval z = .pointer (some ⟨g1, j * 10, none⟩) → ∀ U, Below W.heap.size W U → (execOp a.eval o).run Try.prog U = .ok (.value c1v) U) := fun a o z ho hz U hU => by
        rw [← hc1v]; exact nds_agg H1.out HM.out.1 HP.out a o z ho hz U hU
      have L2 : Hid (∀ (a : Act) (o : Oper) (z : Operand), o.op = .load 31 z → a.eval z = .pointer (some ⟨g2, j * 10, none⟩) → ∀ U, Below W.heap.size W U → (execOp a.eval o).run Try.prog U = .ok (.value c2v) U) := fun a o z ho hz U hU => by
        rw [← hc2v]; exact nds_agg H2.out HM.out.2 HQ.out a o z ho hz U hU
      rw [hc1v, hc2v] at HN
      clear hc1v hc2v
      have hS : Below W.heap.size W V.drew := HB.out.drew
      go_wp2_with fail
      refine gen_act fun a0 hA => ?_
      have hsz : a0.tmps.size = 27 := by rw [hA]; rfl
      have e0 : a0.eval (.tmp 0) = .slice (some ⟨g1, 0, none⟩) m c1 := by rw [hA]; rfl
      have e1 : a0.eval (.tmp 1) = .slice (some ⟨g2, 0, none⟩) m c2 := by rw [hA]; rfl
      have e5 : a0.eval (.tmp 5) = .int .i64 (j : Int) := by rw [hA]; rfl
      refine region_gate (fun U => Below W.heap.size W U) 8 (by kernel_rfl) ?_
      change wpGate _ _ _ _ _ _ 10 _ _ _
      refine gate_take0 (i := 0) (v := (.slice (some ⟨g1, 0, none⟩) m c1)) rfl (by rfl) (by kernel_rfl) (by kernel_rfl) (by kernel_rfl) (fun _ _ _ h => h) rfl (fun U => kmove_exec _ (.tmp 0) rfl _ _ (by simp [evp_same, evp_ne, szp, hsz, e0, e1, e5]) U) hS ?_
      refine gate_take0 (i := 1) (v := (.int .i64 (j : Int))) rfl (by rfl) (by kernel_rfl) (by kernel_rfl) (by kernel_rfl) (fun _ _ _ h => h) rfl (fun U => kmove_exec _ (.tmp 5) rfl _ _ (by simp [evp_same, evp_ne, szp, hsz, e0, e1, e5]) U) hS ?_
      refine gate_take0 (i := 2) (v := (.pointer (some ⟨g1, j * 10, none⟩))) rfl (by rfl) (by kernel_rfl) (by kernel_rfl) (by kernel_rfl) (fun _ _ _ h => h) rfl (fun U => ixn_exec _ (.tmp 16) (.tmp 17) rfl _ U g1 m c1 j (by simp [evp_same, evp_ne, szp, hsz, e0, e1, e5]) (by simp [evp_same, evp_ne, szp, hsz, e0, e1, e5]) hlt) hS ?_
      refine gate_take (i := 3) (v := (c1v)) rfl (by rfl) (by kernel_rfl) (by kernel_rfl) (by kernel_rfl) (by kernel_rfl) (by kernel_rfl) (fun _ _ _ h => h) rfl (fun U hU => L1.out _ _ (.tmp 18) rfl (by simp [evp_same, evp_ne, szp, hsz, e0, e1, e5]) U hU) hS ?_
      refine gate_take0 (i := 4) (v := (.slice (some ⟨g2, 0, none⟩) m c2)) rfl (by rfl) (by kernel_rfl) (by kernel_rfl) (by kernel_rfl) (fun _ _ _ h => h) rfl (fun U => kmove_exec _ (.tmp 1) rfl _ _ (by simp [evp_same, evp_ne, szp, hsz, e0, e1, e5]) U) hS ?_
      refine gate_take0 (i := 5) (v := (.int .i64 (j : Int))) rfl (by rfl) (by kernel_rfl) (by kernel_rfl) (by kernel_rfl) (fun _ _ _ h => h) rfl (fun U => kmove_exec _ (.tmp 5) rfl _ _ (by simp [evp_same, evp_ne, szp, hsz, e0, e1, e5]) U) hS ?_
      refine gate_take0 (i := 6) (v := (.pointer (some ⟨g2, j * 10, none⟩))) rfl (by rfl) (by kernel_rfl) (by kernel_rfl) (by kernel_rfl) (fun _ _ _ h => h) rfl (fun U => ixn_exec _ (.tmp 20) (.tmp 21) rfl _ U g2 m c2 j (by simp [evp_same, evp_ne, szp, hsz, e0, e1, e5]) (by simp [evp_same, evp_ne, szp, hsz, e0, e1, e5]) hlt) hS ?_
      refine gate_take (i := 7) (v := (c2v)) rfl (by rfl) (by kernel_rfl) (by kernel_rfl) (by kernel_rfl) (by kernel_rfl) (by kernel_rfl) (fun _ _ _ h => h) rfl (fun U hU => L2.out _ _ (.tmp 22) rfl (by simp [evp_same, evp_ne, szp, hsz, e0, e1, e5]) U hU) hS ?_
      refine gate_one (i := 8) (by kernel_rfl) ?_
      refine wpOp_callX rfl rfl (knode_run _ _ (.tmp 19) (.tmp 23) _ rfl c1v c2v (by simp [evp_same, evp_ne, szp, hsz, e0, e1, e5]) (by simp [evp_same, evp_ne, szp, hsz, e0, e1, e5]) _) (HN.out _ hS) ?_
      rintro e w' ⟨rfl, hb⟩
      refine ⟨_, rfl, fun h => Bool.noConfusion (show true = false from h), ?_⟩
      have HB' : Hid (Below W.heap.size W w') := below_step hS hb
      clear hb
      refine gate_one (i := 9) (by kernel_rfl) ?_
      refine wpOp_value (w' := w') (v := .bool (!true)) rfl rfl (knot_exec _ (.tmp 24) rfl _ true (by simp [evp_same, szp, hsz]) w') ⟨fun h => Bool.noConfusion (show true = false from h), ?_⟩
      refine kgate_gen fun a2 hA0 => ?_
      have hA2 : a2 = ((((((((((a0.put (some 16) (.slice (some ⟨g1, 0, none⟩) m c1)).put (some 17) (.int .i64 (j : Int))).put (some 18) (.pointer (some ⟨g1, j * 10, none⟩))).put (some 19) (c1v)).put (some 20) (.slice (some ⟨g2, 0, none⟩) m c2)).put (some 21) (.int .i64 (j : Int))).put (some 22) (.pointer (some ⟨g2, j * 10, none⟩))).put (some 23) (c2v)).put (some 24) (.bool true)).put (some 25) (.bool (!true))) := hA0
      clear hA0
      refine gate_done (by kernel_rfl) ?_ _
      subst hA2 hA
      clear hsz e0 e1 e5 hS
      simp only [Act.put, List.setIfInBounds_toArray, List.set_cons_zero, List.set_cons_succ]
      go_wp2_with fail
      go_roundw
      case rel =>
        first
        | exact ⟨j + 1, by omega, by go_num, HB'.out⟩
        | (repeat apply Exists.intro
           exact ⟨⟨j + 1, by omega, by go_num, HB'.out⟩, rfl⟩)
      case measure => simp [intOf]; omega
    · obtain rfl : j = m := by omega
      go_wp2_with fail
      go_ret
      exact ⟨rfl, HB.out⟩
end Go.Proofs.Ytcnnbbgfmilblaa
