/- Take and Put as a law calls them. -/
import Derived.Test.YtfapjbklkfdnhaaDoorSgRef
namespace Go.Proofs.YtfapjbklkfdnhaaDoor
open Go.RowKit
set_option linter.unusedVariables false

/-- Take of a text's bytes. -/
theorem take_txt {w W W' : World} {u : ByteArray} {cap : Nat} (B : Bytes W u cap W') (hb : Below w.heap.size w W) (hM : MaxL w) (hu : u.size ≤ 1000000) (zs : List Int) (hz : byt u = zs) (o : Option (List Int × Nat)) (ho : takeS zs = o) :
    Calls Tryd.prog 9 #[.slice (some ⟨W.heap.size, 0, none⟩) u.size cap] W' (TakeP o w) := by
  subst hz
  have hb2 := below_step hb B.below
  refine (take_any _ u.size cap (byt u) W' (byt_len u) B.le B.max (by omega) (byt_byte u) B.rd (fun h => by cases h) (hM.below hb2) o ho).mono ?_
  rintro e w' ⟨t, ht, rfl, h⟩
  exact ⟨t, ht, rfl, below_step hb2 h⟩
theorem put_txt {w W : World} {u : ByteArray} (hb : Below w.heap.size w W) (hM : MaxL w) (hu : u.size ≤ 1000000) (ok : Bool) (hok : inF true u.size (byt u) = ok) :
    Calls Tryd.prog 11 #[.string u] W (PutP (byt u) ok w) := by
  refine (put_any u W hu (hM.below hb) ok hok).mono ?_
  rintro e w' ⟨t, ht, rfl, h⟩
  exact ⟨t, ht, rfl, below_step hb h⟩
theorem wakes_at {w W : World} (hb : Below w.heap.size w W) (hM : MaxL w) : Calls Tryd.prog 10 #[] W fun e w' => e = .returned (.bool true) ∧ Below w.heap.size w w' := by
  refine (wakes_any W (hM.below hb)).mono ?_
  rintro e w' ⟨rfl, h⟩
  exact ⟨rfl, below_step hb h⟩
theorem put_len {t : ByteArray} {s : List Int} (h : byt t = putF s) : t.size = s.length + s.count 39 + 2 := by
  have := byt_len t
  rw [h] at this
  unfold putF at this
  simp [dbl_len] at this
  omega
theorem head_str {s : ByteArray} (h : 0 < s.size) : (byt s).head? = some (s[0].toNat : Int) := by
  have := byt_at s 0 h
  rwa [← List.head?_eq_getElem?] at this
end Go.Proofs.YtfapjbklkfdnhaaDoor
