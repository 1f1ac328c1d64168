/- Single bytes put behind bytes of our own: 'append(out, c)', '[]byte{c}'. -/
import Derived.Test.YtdjpdcjljpmfnaaDoorBase
namespace Go.Proofs.YtdjpdcjljpmfnaaDoor
open Go.RowKit
set_option linter.unusedVariables false

theorem own_one (w W : World) (hb : w.heap.size ≤ W.heap.size) (z : Int) : (W.alloc (.cells #[.int .u8 z] 5)).ownsRow w.heap.size 5 1 (.slice (some ⟨W.heap.size, 0, none⟩) 1 1) 1 (([z] : List Int).map (Value.int .u8)) :=
  ⟨rfl, .inr ⟨W.heap.size, 1, _, rfl, hb, heap_alloc_new W _, Nat.le_refl _, by unfold maxLen; omega, rfl, rfl⟩⟩
theorem one_more (w W : World) (A : Option Addr) (cap p : Nat) (out : List Int) (hp : out.length = p) (hown : W.ownsRow w.heap.size 5 1 (.slice A p cap) p (out.map (Value.int .u8))) (hb : Below w.heap.size w W) (z : Int) (hsz : p + 1 ≤ 1000000000) :
    ∃ A' cap' W', (Builtin.append_ #[37, 37] 37 #[.slice A p cap, .slice (some ⟨W.heap.size, 0, none⟩) 1 1]).run Tryd.prog (W.alloc (.cells #[.int .u8 z] 5)) = .ok (.slice A' (p + 1) cap') W' ∧
      p + 1 ≤ cap' ∧ cap' ≤ 9223372036854775807 ∧ (A' = none → cap' = 0) ∧ W'.ownsRow w.heap.size 5 1 (.slice A' (p + 1) cap') (p + 1) ((out ++ [z]).map (Value.int .u8)) ∧ Below w.heap.size w W' := by
  have hs := hb.size
  have hbel : Below w.heap.size w (W.alloc (.cells #[.int .u8 z] 5)) := hb.alloc hs _
  obtain ⟨v', W', hrun, ho, hg, hv⟩ := run_append_bytes (W.alloc (.cells #[.int .u8 z] 5)) w.heap.size _ p out (own_alloc hown _) (by simp; omega) (some ⟨W.heap.size, 0, none⟩) 1 1 [z] rfl
    (RdB.new rfl (fun k y hy => by
      match k with
      | 0 => simp at hy; subst hy; rfl
      | k + 1 => simp at hy)) hsz
  obtain ⟨A', cap', rfl, h1, h2, h3⟩ := own_form ho
  exact ⟨A', cap', W', hrun, h1, h2, h3, ho, hbel.grown hg (by simp; omega) (own_base hown)⟩
end Go.Proofs.YtdjpdcjljpmfnaaDoor
