/- Take and Put as a law calls them; what a text of digits, and a text put in quotes, come to. -/
import Derived.Test.YtdjpdcjljpmfnaaDoorDbTake
import Derived.Test.YtdjpdcjljpmfnaaDoorDbPut
import Derived.Test.YtdjpdcjljpmfnaaDoorRangeS
import Derived.Deep.DeepCutAuto
import Derived.StillTailTactics
namespace Go.Proofs.YtdjpdcjljpmfnaaDoor
open Go.RowKit
set_option linter.unusedVariables false

/-- Take of a text's bytes. -/
theorem take_txt {w W W' : World} {u : ByteArray} {cap : Nat} (B : Bytes W u cap W') (hb : Below w.heap.size w W) (hS : Shorts w) (hu : u.size ≤ 1000000) (zs : List Int) (hz : byt u = zs) (o : Option (List Int × Nat)) (ho : takeD zs = o) :
    Calls Tryd.prog 18 #[.slice (some ⟨W.heap.size, 0, none⟩) u.size cap] W' (TakeP o w) := by
  subst hz
  have hb2 := below_step hb B.below
  refine (take_any _ u.size cap (byt u) W' (byt_len u) B.le B.max (by omega) (byt_byte u) B.rd (hS.below hb2) o ho).mono ?_
  rintro e w' ⟨t, ht, rfl, h⟩
  exact ⟨t, ht, rfl, below_step hb2 h⟩
theorem put_txt {w W : World} {u : ByteArray} (hb : Below w.heap.size w W) (hS : Shorts w) (hu : u.size ≤ 1000000) (o : Option (List Int)) (ho : putD (byt u) = o) :
    Calls Tryd.prog 15 #[.string u] W (PutP o w) := by
  refine (put_any u W hu (hS.below hb) o ho).mono ?_
  rintro e w' ⟨t, ht, rfl, h⟩
  exact ⟨t, ht, rfl, below_step hb h⟩
theorem hex_at {w W : World} (hb : Below w.heap.size w W) (n d : Int) (h0 : 0 ≤ n) (h1 : n < 4294967296) (hd : -9223372036854775808 ≤ d ∧ d ≤ 9223372036854775807) : Calls Tryd.prog 46 #[.int .u32 n, .int .i64 d] W (HexP n d w) := by
  refine (hex_any n d W h0 h1 hd).mono ?_
  rintro e w' ⟨t, ht, rfl, h⟩
  exact ⟨t, ht, rfl, below_step hb h⟩
theorem str_beq (p q : ByteArray) : (p.toList == q.toList) = true ↔ p = q := by
  simp only [beq_iff_eq, Lib.toList_data]
  exact ⟨fun h => ByteArray.ext (Array.toList_inj.1 h), fun h => by rw [h]⟩
/-- A byte below 128 is a rune of its own. -/
theorem decode_ascii (s : ByteArray) (pos : Nat) (h : pos < s.size) (ha : s[pos].toNat < 128) : (Utf8.decode s pos).2 = 1 := by
  have hb : (s.get! (pos + 0)).toNat < 128 := by rw [Nat.add_zero, get_bang s pos h]; exact ha
  simp only [Utf8.decode]
  split
  · rfl
  · repeat' split
    all_goals first | rfl | (simp only [Bool.and_eq_true, decide_eq_true_eq, beq_iff_eq] at *; omega)
end Go.Proofs.YtdjpdcjljpmfnaaDoor
