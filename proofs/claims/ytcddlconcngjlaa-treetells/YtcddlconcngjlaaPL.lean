/- Same of numbers, Node, Nodes: two lists that are told alike are the same. · Nodes: two lists that are told alike are the same. -/
import Derived.Test.YtcddlconcngjlaaPJ
import Derived.Test.YtcddlconcngjlaaPG
set_option linter.unusedSimpArgs false
set_option linter.unusedVariables false
namespace Go.Proofs.Ytcddlconcngjlaa
open Go.RowKit
set_option linter.unusedVariables false
set_option linter.unusedSimpArgs false
set_option maxRecDepth 100000
theorem load10o (o : Oper) (x : Operand) (ho : o.op = .load 41 x) (a : Act) (V : World) (g k : Nat) (v0 v1 v2 v3 v4 v5 v6 v7 v8 v9 : Value) (hx : a.eval x = .pointer (some ⟨g, k, none⟩)) (h : ∀ j v, [v0, v1, v2, v3, v4, v5, v6, v7, v8, v9][j]? = some v → V.cell? ⟨g, k + j, none⟩ = some v) :
    (execOp a.eval o).run Try.prog V = .ok (.value (.agg #[v0, v1, v2, v3, v4, v5, v6, v7, v8, v9])) V := by
  have c0 := h 0 _ rfl
  have c1 := h 1 _ rfl
  have c2 := h 2 _ rfl
  have c3 := h 3 _ rfl
  have c4 := h 4 _ rfl
  have c5 := h 5 _ rfl
  have c6 := h 6 _ rfl
  have c7 := h 7 _ rfl
  have c8 := h 8 _ rfl
  have c9 := h 9 _ rfl
  rw [Nat.add_zero] at c0
  unfold execOp
  simp only [ho, hx]
  simp [go_sem, c0, c1, c2, c3, c4, c5, c6, c7, c8, c9]
theorem ixn_exec (o : Oper) (x y : Operand) (ho : o.op = .indexAddr 26 x y) (a : Act) (V : World) (g m c j : Nat) (hx : a.eval x = .slice (some ⟨g, 0, none⟩) m c) (hy : a.eval y = .int .i64 (j : Int)) (hj : j < m) :
    (execOp a.eval o).run Try.prog V = .ok (.value (.pointer (some ⟨g, j * 10, none⟩))) V := by
  have d1 : (j : Int) < (m : Int) := by omega
  unfold execOp
  simp only [ho, hx, hy]
  simp [go_sem, d1]
theorem knode_run (a : Act) (o : Oper) (x y : Operand) (T : Array TypeId) (ho : o.op = .call { callee := .value (.func 39), args := #[x, y], argTypes := T }) (vx vy : Value) (hx : a.eval x = vx) (hy : a.eval y = vy) (w : World) :
    (execOp a.eval o).run Try.prog w = .ok (.enter 39 #[vx, vy]) w := by
  have hn : (Try.f39.name == "runtime.NumGoroutine") = false := by kernel_rfl
  have hb : Try.f39.body.isNone = false := by kernel_rfl
  have hf : a.eval (.func 39) = .func (.func 39) #[] #[] := rfl
  have hn' : ¬ (Try.f39.name = "runtime.NumGoroutine") := by simpa using hn
  have hb' : ¬ (Try.f39.body = none) := by
    intro h
    rw [h] at hb
    cases hb
  unfold execOp
  simp [ho, resolve, Deferred.ofValue, hf, hx, hy, invoke, callFunc, run_program, Try.func39]
  rw [if_neg hn', if_neg hb']
theorem kmove_exec (o : Oper) (x : Operand) (ho : o.op = .move x) (a : Act) (v : Value) (hx : a.eval x = v) (V : World) : (execOp a.eval o).run Try.prog V = .ok (.value v) V := by
  simp [execOp, ho, hx]
theorem knot_exec (o : Oper) (x : Operand) (ho : o.op = .unOp .not 4 x) (a : Act) (b : Bool) (hx : a.eval x = .bool b) (V : World) : (execOp a.eval o).run Try.prog V = .ok (.value (.bool !b)) V := by
  unfold execOp
  simp only [ho, hx]
  simp [go_sem]
theorem kgate_gen {P : Program} {ops : Array Oper} {Q : Exit → Act → World → Prop} {md : Region.Mode} {S : World → Prop} {t n : Nat} {L : Array Bool} {a : Act} {w : World} (h : ∀ a0 : Act, a0 = a → wpGate P md ops Q S t n L a0 w) : wpGate P md ops Q S t n L a w := h a rfl
end Go.Proofs.Ytcddlconcngjlaa
