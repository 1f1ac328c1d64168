/- '[]byte' of a text: as a run that is known, for every world. -/
import Derived.Test.YtpcbpblckecfiaaLend
namespace Go.Proofs.Ytpcbpblckecfiaa
open Go.RowKit
set_option linter.unusedVariables false

theorem run_bytes_of (s : ByteArray) (hs : s.size ≤ 1000000000) (w : World) : ∃ cap W, (convert 9 27 (.string s)).run Try.prog w = .ok (.slice (some ⟨w.heap.size, 0, none⟩) s.size cap) W ∧
    s.size ≤ cap ∧ cap ≤ 9223372036854775807 ∧ RdB W (some ⟨w.heap.size, 0, none⟩) (byt s) ∧ Below w.heap.size w W := by
  refine ⟨_, _, Lib.run_convert_string_bytes (P := Try.prog) w 9 27 5 s Try.underlying9 Try.underlying27 Try.underlying5, grownCap_ge w _ _ _, ?_, ?_, ?_⟩
  · have := grownCap_le_maxLen w s.size 0 5 (by unfold maxLen; omega)
    unfold maxLen at this; omega
  · intro k z hz
    refine ⟨_, _, rfl, ?_⟩
    rw [Nat.zero_add]
    have hk : k < s.size := by have := (List.getElem?_eq_some_iff.1 hz).1; rwa [byt_len] at this
    rw [Lib.bytesWorld_cell w 5 s k hk]
    rw [byt_at s k hk] at hz
    injection hz with hz
    rw [← hz]
    have : s.data.toList.getD k 0 = s[k] := by
      simp [List.getD, hk]; rfl
    rw [this]
  · exact ⟨rfl, rfl, rfl, by rw [Lib.bytesWorld_size]; omega, fun k hk => Lib.bytesWorld_at_old w 5 s k hk⟩

/-- A contract's caller's way: the conversion of a text that is known, in a world that is known. -/
structure Bytes (w : World) (s : ByteArray) (cap : Nat) (W : World) : Prop where
  run : (convert 9 27 (.string s)).run Try.prog w = .ok (.slice (some ⟨w.heap.size, 0, none⟩) s.size cap) W
  le : s.size ≤ cap
  max : cap ≤ 9223372036854775807
  rd : RdB W (some ⟨w.heap.size, 0, none⟩) (byt s)
  below : Below w.heap.size w W
theorem bytes_of (s : ByteArray) (hs : s.size ≤ 1000000000) (w : World) : ∃ cap W, Bytes w s cap W := by
  obtain ⟨cap, W, h1, h2, h3, h4, h5⟩ := run_bytes_of s hs w
  exact ⟨cap, W, h1, h2, h3, h4, h5⟩
end Go.Proofs.Ytpcbpblckecfiaa
