/- A region that draws its order, whose loads come ahead of a store (the gate): what is held of memory need be held up to the gate alone. -/
import Derived.Test.YtpmikhhnnjhiaaaBase
import Derived.OrdersHeld
namespace Go.Proofs.Ytpmikhhnnjhiaaa
open Go.RowKit
set_option linter.unusedVariables false

section
variable {P : Program} {ops : Array Oper} {Q : Exit → Act → World → Prop} {md : Region.Mode} {S : World → Prop} {t : Nat}

/-- The list of what has come up, with one more. -/
def upOne (L : Array Bool) (i : Nat) : Array Bool := L.setIfInBounds i true
/-- Has the gate not come up yet? -/
def Shut (t : Nat) (L : Array Bool) : Prop := L.getD t true = false
/-- Whatever order: while the gate t has not come up, S holds behind each operation. -/
def wpGate (P : Program) (md : Region.Mode) (ops : Array Oper) (Q : Exit → Act → World → Prop) (S : World → Prop) (t : Nat) : Nat → Array Bool → Act → World → Prop
  | 0, L, a, w => Region.ready md ops L = [] ∧ Q .normal a w
  | n + 1, L, a, w => (Region.ready md ops L = [] → Q .normal a w) ∧
      ∀ i ∈ Region.ready md ops L, wpOp P ops Q i (fun a' w' => (Shut t (upOne L i) → S w') ∧ wpGate P md ops Q S t n (upOne L i) a' w') a w
theorem any_of_gate (n : Nat) : ∀ (L : Array Bool) (a : Act) (w : World), wpGate P md ops Q S t n L a w → wpAny P md ops Q n L a w := by
  induction n with
  | zero => exact fun _ _ _ h => h
  | succ n ih => exact fun L a w h => ⟨h.1, fun i hi => wpOp_mono (fun a' w' hk => ih _ _ _ hk.2) (h.2 i hi)⟩
theorem region_gate {id : Nat} {a : Act} {w : World} (S : World → Prop) (t : Nat) (hm : P.follows .mixedOrders = true)
    (h : wpGate P .any ops Q S t ops.size (Array.replicate ops.size false) a w.drew) : (Code.region id ops true).wp P Q a w :=
  wp_region_any hm (any_of_gate _ _ _ _ h)
theorem gate_done {L : Array Bool} {a : Act} {w : World} (hr : Region.ready md ops L = []) (h : Q .normal a w) (n : Nat) : wpGate P md ops Q S t n L a w := by
  cases n with
  | zero => exact ⟨hr, h⟩
  | succ n => exact ⟨fun _ => h, fun i hi => by rw [hr] at hi; cases hi⟩
theorem gate_one {i n : Nat} {L : Array Bool} {a : Act} {w : World} (hr : Region.ready md ops L = [i])
    (h : wpOp P ops Q i (fun a' w' => (Shut t (upOne L i) → S w') ∧ wpGate P md ops Q S t n (upOne L i) a' w') a w) : wpGate P md ops Q S t (n + 1) L a w :=
  ⟨fun h0 => (by rw [hr] at h0; cases h0), fun j hj => by rw [hr] at hj; simp at hj; subst hj; exact h⟩

theorem shut_up {L : Array Bool} {i : Nat} (h : i ≠ t) : Shut t (upOne L i) ↔ Shut t L := by
  unfold Shut upOne; rw [getD_set_ne true h]
theorem up_comm (L : Array Bool) {i j : Nat} (h : i ≠ j) : upOne (upOne L i) j = upOne (upOne L j) i := Array.setIfInBounds_comm _ _ h
/-- Of two that may come up now neither waits for the other. -/
theorem no_wait {L : Array Bool} {i j : Nat} {oj : Oper} (hi : i ∈ Region.ready md ops L) (hj : j ∈ Region.ready md ops L) (ho : ops[j]? = some oj) : ∀ e ∈ oj.after, Region.binds md e = true → e.on ≠ i := by
  rintro e he hb rfl
  obtain ⟨_, o', ho', hall⟩ := mem_ready.1 hj
  rw [ho] at ho'
  cases ho'
  have up := hall e he hb
  have down := (mem_ready.1 hi).1
  by_cases hs : e.on < L.size
  · simp [hs] at up down
    rw [up] at down
    cases down
  · simp [Array.getElem?_eq_none (Nat.le_of_not_lt hs)] at up

/-- Nobody who could come ahead of i, from L on, meddles with it. -/
def Alone (md : Region.Mode) (ops : Array Oper) (oi : Oper) (i : Nat) (L : Array Bool) : Prop :=
  ∀ j oj, ops[j]? = some oj → j ≠ i → L.getD j true = false → (∀ e ∈ oj.after, Region.binds md e = true → e.on ≠ i) → oi.apart ops oj = true
theorem Alone.up {oi : Oper} {i j : Nat} {L : Array Bool} (h : Alone md ops oi i L) (hj : L.getD j true = false) : Alone md ops oi i (upOne L j) := by
  intro k ok hk hki hun hw
  refine h k ok hk hki ?_ hw
  by_cases e : j = k
  · exact e ▸ hj
  · unfold upOne at hun; rwa [getD_set_ne true e] at hun

/-- **One operation is taken first.** C: what it wants of the world; G: what is true of the list as long as it has not come up. -/
theorem gate_move {C : World → Prop} {G : Array Bool → Prop} {i : Nat} {oi : Oper} {v : Value} (hit : i ≠ t) (hi : ops[i]? = some oi) (hsel : ∀ (j : Nat) (o : Oper) cs b, ops[j]? = some o → o.op ≠ .select cs b)
    (hQ : ∀ c a w, Q (.panic c) (a.put oi.dst v) w → Q (.panic c) a w) (hC : ∀ L w, G L → (Shut t L → S w) → C w)
    (hG : ∀ L j, G L → i ∈ Region.ready md ops L → j ∈ Region.ready md ops L → j ≠ i → G (upOne L j)) (n : Nat) :
    ∀ (L : Array Bool) (a : Act) (w : World), Alone md ops oi i L → G L → i ∈ Region.ready md ops L → YieldsIf P ops C oi v a → (Shut t L → S w) →
      wpGate P md ops Q S t n (upOne L i) (a.put oi.dst v) w → wpGate P md ops Q S t (n + 1) L a w := by
  have itself : ∀ (m : Nat) (L : Array Bool) (a : Act) (w : World), G L → YieldsIf P ops C oi v a → (Shut t L → S w) → wpGate P md ops Q S t m (upOne L i) (a.put oi.dst v) w →
      wpOp P ops Q i (fun a' w' => (Shut t (upOne L i) → S w') ∧ wpGate P md ops Q S t m (upOne L i) a' w') a w :=
    fun m L a w g y s H => y.wpOp hi (hC L w g s) ⟨fun h => s ((shut_up hit).1 h), H⟩
  induction n with
  | zero =>
    intro L a w _ g hr y s H
    refine ⟨fun h => (by rw [h] at hr; cases hr), fun j hj => ?_⟩
    rcases Nat.decEq j i with hne | rfl
    · have := ready_mono hj hne
      unfold upOne at H
      rw [H.1] at this
      cases this
    · exact itself 0 L a w g y s H
  | succ n ih =>
    intro L a w al g hr y s H
    refine ⟨fun h => (by rw [h] at hr; cases hr), fun j hj => ?_⟩
    rcases Nat.decEq j i with hne | rfl
    · obtain ⟨hun, oj, hoj, _⟩ := mem_ready.1 hj
      have rest := H.2 j (ready_mono hj hne)
      have moved := wpOp_putIf hoj (al j oj hoj hne hun (no_wait hr hj hoj)) (fun cs b => hsel i oi cs b hi) (fun cs b => hsel j oj cs b hoj) hQ y rest
      refine wpOp_mono (fun a' w' k => ?_) moved
      have s' : Shut t (upOne L j) → S w' := fun h => k.2.1 (by rw [up_comm L (Ne.symm hne), shut_up hit]; exact h)
      exact ⟨s', ih (upOne L j) a' w' (al.up hun) (hG L j g hr hj hne) (ready_mono hr (Ne.symm hne)) k.1 s' (by rw [← up_comm L (Ne.symm hne)]; exact k.2.2)⟩
    · exact itself (n + 1) L a w g y s H

/-- The gate waits for i. -/
def waitsFor (md : Region.Mode) (ops : Array Oper) (t i : Nat) : Bool := match ops[t]? with
  | some o => o.after.toList.any fun e => Region.binds md e && decide (e.on = i)
  | none => false
theorem gate_take0 {i : Nat} {oi : Oper} {v : Value} {n : Nat} {L : Array Bool} {a : Act} {w : World} (hi : ops[i]? = some oi) (hit : decide (i ≠ t) = true)
    (hs : Region.noSelect ops = true) (hf : Region.free md ops L i = true) (hr : (Region.ready md ops L).contains i = true)
    (hQ : ∀ c a w, Q (.panic c) (a.put oi.dst v) w → Q (.panic c) a w) (hw : Region.wanted oi (yielded ops a.tmps) = true) (hy : ∀ w, (execOp a.eval oi).run P w = .ok (.value v) w) (hS : S w)
    (h : wpGate P md ops Q S t n (upOne L i) (a.put oi.dst v) w) : wpGate P md ops Q S t (n + 1) L a w :=
  gate_move (C := fun _ => True) (G := fun _ => True) (of_decide_eq_true hit) hi (Region.noSelect_spec hs) hQ (fun _ _ _ _ => trivial) (fun _ _ _ _ _ _ => trivial) n L a w (Region.free_spec hi hf) trivial (by simpa using hr) (.inl ⟨hw, fun w _ => hy w⟩) (fun _ => hS) h
theorem gate_take {i : Nat} {oi : Oper} {v : Value} {n : Nat} {L : Array Bool} {a : Act} {w : World} (hi : ops[i]? = some oi) (hit : decide (i ≠ t) = true) (hwt : waitsFor md ops t i = true) (hlt : L.getD t true = false)
    (hs : Region.noSelect ops = true) (hf : Region.free md ops L i = true) (hr : (Region.ready md ops L).contains i = true)
    (hQ : ∀ c a w, Q (.panic c) (a.put oi.dst v) w → Q (.panic c) a w) (hw : Region.wanted oi (yielded ops a.tmps) = true) (hy : ∀ w, S w → (execOp a.eval oi).run P w = .ok (.value v) w) (hS : S w)
    (h : wpGate P md ops Q S t n (upOne L i) (a.put oi.dst v) w) : wpGate P md ops Q S t (n + 1) L a w := by
  have hG : ∀ L j, Shut t L → i ∈ Region.ready md ops L → j ∈ Region.ready md ops L → j ≠ i → Shut t (upOne L j) := by
    intro L j hL hri hrj _
    refine (shut_up ?_).2 hL
    rintro rfl
    unfold waitsFor at hwt
    split at hwt
    · rename_i o ho
      obtain ⟨e, he, hb⟩ := List.any_eq_true.1 hwt
      simp at hb
      exact no_wait hri hrj ho e (by simpa using he) hb.1 hb.2
    · cases hwt
  exact gate_move (C := S) (G := Shut t) (of_decide_eq_true hit) hi (Region.noSelect_spec hs) hQ (fun _ _ g s => s g) hG n L a w (Region.free_spec hi hf) hlt (by simpa using hr) (.inl ⟨hw, hy⟩) (fun _ => hS) h
/-- One operation, whatever it is: a value, a call that turns nothing, a store. -/
theorem wpOp_value {i : Nat} {o : Oper} {v : Value} {a : Act} {w w' : World} {K : Act → World → Prop} (hi : ops[i]? = some o) (hw : Region.wanted o (yielded ops a.tmps) = true) (hr : (execOp a.eval o).run P w = .ok (.value v) w') (h : K (a.put o.dst v) w') : wpOp P ops Q i K a w := by
  unfold wpOp
  simp only [hi, hw, if_true, Oper.wp, hr, Oper.upon]
  exact .inl h
theorem wpOp_skip {i : Nat} {o : Oper} {a : Act} {w w' : World} {K : Act → World → Prop} (hi : ops[i]? = some o) (hw : Region.wanted o (yielded ops a.tmps) = true) (hr : (execOp a.eval o).run P w = .ok .skip w') (h : K (a.put o.dst undef) w') : wpOp P ops Q i K a w := by
  unfold wpOp
  simp only [hi, hw, if_true, Oper.wp, hr, Oper.upon]
  exact .inl h
theorem wpOp_call {i : Nat} {o : Oper} {f : FuncId} {args : Array Value} {v : Value} {a : Act} {w : World} {K : Act → World → Prop} (hi : ops[i]? = some o) (hw : Region.wanted o (yielded ops a.tmps) = true) (hr : (execOp a.eval o).run P w = .ok (.enter f args) w)
    (hc : Calls P f args w fun e w' => e = .returned v ∧ w = w') (h : K (a.put o.dst v) w) : wpOp P ops Q i K a w := by
  unfold wpOp
  simp only [hi, hw, if_true, Oper.wp, hr, Oper.upon]
  refine .inl (hc.mono ?_)
  rintro e w' ⟨rfl, rfl⟩
  exact h
end
/-! ### A frame that is a letter -/
theorem gen_act {P : Program} {c : Code} {Q : Exit → Act → World → Prop} {a : Act} {w : World} (h : ∀ a0 : Act, a0 = a → Code.wp P c Q a0 w) : Code.wp P c Q a w := h a rfl
theorem evp_same (a : Act) (d : Nat) (v : Value) (h : d < a.tmps.size) : (a.put (some d) v).eval (.tmp d) = v := by
  simp [Act.eval, Act.put, Array.getD, h]
theorem evp_ne (a : Act) (d d' : Nat) (v : Value) (h : d ≠ d') : (a.put (some d) v).eval (.tmp d') = a.eval (.tmp d') :=
  Act.eval_put fun x hx he => by
    injection hx with hx
    injection he with he
    exact h (hx.trans he.symm)
theorem szp (a : Act) (x : Option Tmp) (v : Value) : (a.put x v).tmps.size = a.tmps.size := by
  cases x <;> simp [Act.put]
end Go.Proofs.Ytpmikhhnnjhiaaa
