/- Rows of texts of our own: one more; the example of the document. -/
import Derived.Test.YtodnfdkcmhiljaaFdVal
import Derived.Test.YtodnfdkcmhiljaaTexts
namespace Go.Proofs.Ytodnfdkcmhiljaa
open Go.RowKit
set_option linter.unusedVariables false

/-- A row of texts of our own. -/
def OwnT (w W : World) (A : Option Addr) (m cap : Nat) (l : List ByteArray) : Prop :=
  l.length = m ∧ W.ownsRow w.heap.size 9 1 (.slice A m cap) m (l.map Value.string) ∧ Below w.heap.size w W ∧ m ≤ cap ∧ cap ≤ 9223372036854775807 ∧ (A = none → cap = 0)
theorem OwnT.nil (w W : World) (h : Below w.heap.size w W) : OwnT w W none 0 0 [] := ⟨rfl, own_nil _ _ _ _, h, by omega, by omega, fun _ => rfl⟩
theorem OwnT.below {w W W' : World} {A : Option Addr} {m cap : Nat} {l : List ByteArray} (h : OwnT w W A m cap l) (hb : Below W.heap.size W W') : OwnT w W' A m cap l :=
  ⟨h.1, own_below h.2.1 hb, h.2.2.1.trans (hb.mono h.2.2.1.size), h.2.2.2⟩
theorem OwnT.rd {w W : World} {A : Option Addr} {m cap : Nat} {l : List ByteArray} (h : OwnT w W A m cap l) : RdC W A (l.map Value.string) := RdC.own h.2.1
theorem append_txt {w W : World} {A : Option Addr} {m cap : Nat} {l : List ByteArray} (h : OwnT w W A m cap l) (ss : List ByteArray) (k : Nat) (hk : ss.length = k) (C : Array Value) (hC : C = (ss.map Value.string).toArray) (hsz : m + k ≤ 1000000) (g : Nat) (hg : g = W.heap.size) (p : Nat) (hp : p = m + k) (l' : List ByteArray) (hl' : l' = l ++ ss) :
    ∃ A' cap' W', (Builtin.append_ #[22, 22] 22 #[.slice A m cap, .slice (some ⟨g, 0, none⟩) k k]).run Try.prog (W.alloc (.cells C 9)) = .ok (.slice A' p cap') W' ∧ OwnT w W' A' p cap' l' := by
  obtain ⟨hl, hown, hb, _⟩ := h
  subst hC hk hl hg hp hl'
  have hs := hb.size
  have hbel : Below w.heap.size w (W.alloc (.cells (ss.map Value.string).toArray 9)) := hb.alloc hs _
  obtain ⟨v', W', hrun, ho, hg, hv⟩ := run_append_rows Try.underlying22 text_info rfl (by omega) (by omega) (W.alloc (.cells (ss.map Value.string).toArray 9)) w.heap.size _ l.length (l.map Value.string) (own_alloc hown _) (by simp; omega)
    (some ⟨W.heap.size, 0, none⟩) ss.length ss.length (ss.map Value.string) (by simp) (RdC.new rfl (fun j v hv => by simpa using hv)) (by intro u hu; simp at hu; obtain ⟨s, _, rfl⟩ := hu; rfl) (by omega)
  obtain ⟨A', cap', rfl, h1, h2, h3⟩ := own_form ho
  exact ⟨A', cap', W', hrun, by simp, by rw [List.map_append]; exact ho, hbel.grown hg (by simp; omega) (own_base hown), h1, h2, h3⟩

set_option maxHeartbeats 1000000 in
theorem wakes_any (w : World) : Calls Try.prog 15 #[] w fun e w' => e = .returned (.bool true) ∧ Below w.heap.size w w' := by
  go_enter Try.func15, Try.ntmps15
  go_wp2_with fail
  refine (value_any (some ⟨w.heap.size, 0, none⟩) 2 2 ⟨true, false, false, 0⟩ [⟨#[97]⟩, ⟨#[98]⟩] _ rfl (by omega) (fun h => by cases h) (by omega) (by intro s hs; simp at hs; rcases hs with rfl | rfl <;> decide) (RdC.new rfl (fun k v hv => by simpa using hv))).mono ?_
  rintro e W1 ⟨s, hs, rfl, hb⟩
  obtain rfl : s = ⟨#[97, 32, 98, 10]⟩ := byt_inj (hs.trans (by decide +kernel))
  have HB := Lib.hid (below_step ((Below.refl _ _).alloc (Nat.le_refl _) _) hb)
  clear hs hb
  go_wp2
  go_ret
  exact ⟨rfl, HB.out⟩
end Go.Proofs.Ytodnfdkcmhiljaa
