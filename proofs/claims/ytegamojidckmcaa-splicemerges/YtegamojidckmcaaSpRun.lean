/- What single operations on a row of splices do. -/
import Derived.Test.YtegamojidckmcaaSpSeen
import Derived.Test.YtegamojidckmcaaGate
namespace Go.Proofs.Ytegamojidckmcaa
open Go.RowKit
set_option linter.unusedVariables false

theorem elemS' : Try.prog.elem 29 = 28 := by kernel_rfl
theorem underS' : Try.prog.underlying 29 = some (.slice (Try.prog.elem 29)) := by rw [elemS']; exact Try.underlying29
theorem ix_run (g n cap k : Nat) (hk : k < n) (V : World) : (Instr.indexAt 29 (.slice (some ⟨g, 0, none⟩) n cap) (.int .i64 (k : Int))).run Try.prog V = .ok (.pointer (some ⟨g, k * 3, none⟩)) V := by
  obtain ⟨i, hi', hz, hs1, _⟩ := info_parts splice_info
  rw [run_indexAt_slice V 29 _ n cap .i64 _ underS', if_pos (by omega), elemS']
  simp [sizeOf, typeInfo, hi', hs1, add_plain]
theorem fd_run0 (g o : Nat) (V : World) : (Instr.fieldAt 28 (.pointer (some ⟨g, o, none⟩)) 0).run Try.prog V = .ok (.pointer (some ⟨g, o, none⟩)) V := by
  simp [go_sem]
theorem fd_run1 (g o : Nat) (V : World) : (Instr.fieldAt 28 (.pointer (some ⟨g, o, none⟩)) 1).run Try.prog V = .ok (.pointer (some ⟨g, o + 1, none⟩)) V := by
  simp [go_sem, add_plain]
theorem ld_run (g o : Nat) (z : Int) (V : World) (h : V.cell? ⟨g, o, none⟩ = some (.int .i64 z)) : (Instr.loadAt 3 (.pointer (some ⟨g, o, none⟩))).run Try.prog V = .ok (.int .i64 z) V := by
  simp [go_sem, h]
theorem st_run (g o : Nat) (z : Int) (V : World) (u : Value) (h : V.cell? ⟨g, o, none⟩ = some u) (hf : V.frozen? ⟨g, o, none⟩ = false) : (Instr.storeAt 3 (.pointer (some ⟨g, o, none⟩)) (.int .i64 z)).run Try.prog V = .ok () (V.setCell ⟨g, o, none⟩ (.int .i64 z)) := by
  simp [go_sem, h, hf]
theorem within_run (a : Act) (o : Oper) (x y : Operand) (T : Array TypeId) (ho : o.op = .call { callee := .value (.func 9), args := #[x, y], argTypes := T }) (vx vy : Value) (hx : a.eval x = vx) (hy : a.eval y = vy) (w : World) :
    (execOp a.eval o).run Try.prog w = .ok (.enter 9 #[vx, vy]) w := by
  have hn : (Try.f9.name == "runtime.NumGoroutine") = false := by kernel_rfl
  have hb : Try.f9.body.isNone = false := by kernel_rfl
  have hf : a.eval (.func 9) = .func (.func 9) #[] #[] := rfl
  have hn' : ¬ (Try.f9.name = "runtime.NumGoroutine") := by simpa using hn
  have hb' : ¬ (Try.f9.body = none) := by
    intro h
    rw [h] at hb
    cases hb
  unfold execOp
  simp [ho, resolve, Deferred.ofValue, hf, hx, hy, invoke, callFunc, run_program, Try.func9]
  rw [if_neg hn', if_neg hb']
theorem put_none (a : Act) (v : Value) : a.put none v = a := rfl
end Go.Proofs.Ytegamojidckmcaa
