/- A slice of texts that came in: what its reading tells of memory. -/
import Derived.Test.YtodnfdkcmhiljaaBase
import Derived.SliceStrings
namespace Go.Proofs.Ytodnfdkcmhiljaa
open Go.RowKit Go.ChangeShapes Go.WideShapes
set_option linter.unusedVariables false

theorem text_cells : Try.prog.cellsOf 9 = 1 := by kernel_rfl
/-- What a slice of texts is to a walk. -/
def IsTxs (w : World) (a : Option Addr) (len cap : Nat) (l : List ByteArray) : Prop := l.length = len ∧ RdC w a (l.map Value.string) ∧ (∀ s ∈ l, s.size ≤ maxLen) ∧ len ≤ cap ∧ cap ≤ 9223372036854775807 ∧ (a = none → cap = 0)
theorem open_texts {H : Type} {enc : TypeId × Value → H} {w : World} {base : Nat} {spare : Nat → Bool} {held : Bool} {a : Option Addr} {len cap : Nat} {d : DataW H} {p : List MemPlace}
    (h : DataW.Trod enc Try.prog w base spare held 22 (.slice a len cap) d p) : ∃ l, IsTxs w a len cap l := by
  obtain ⟨fuel, hf⟩ := h
  rcases open_strings Try.underlying22 Try.underlying9 text_cells hf with ⟨hcs, _⟩ | ⟨x, l', c', ss, hcs, _, hl, hm, hz, _, hcell, hsz⟩
  · simp [Value.cells] at hcs
    obtain ⟨rfl, rfl, rfl⟩ := hcs
    exact ⟨[], rfl, RdC.nil _ _, (by intro y hy; simp at hy), Nat.le_refl _, by omega, fun _ => rfl⟩
  · simp [Value.cells] at hcs
    obtain ⟨rfl, rfl, rfl⟩ := hcs
    have hlm : len ≤ ss.length := by rw [hz]; split <;> omega
    unfold maxLen at hm
    refine ⟨ss.take len, by rw [List.length_take]; omega, ?_, fun s hs => hsz s (List.mem_of_mem_take hs), hl, by omega, fun h => by cases h⟩
    intro k v hk
    rw [List.getElem?_map, List.getElem?_take] at hk
    split at hk
    · rename_i hkl
      have hk' : k < ss.length := by omega
      have hc := hcell k hk'
      have hg : ss[k]? = some (ss.getD k ByteArray.empty) := by rw [List.getElem?_eq_getElem hk']; simp [List.getD, hk']
      rw [hg] at hk
      simp only [Option.map_some, Option.some.injEq] at hk
      subst hk
      have h0 := hcell 0 (by omega)
      obtain ⟨b, off, spot⟩ := x
      have hspot : spot = none := by simpa [Addr.add] using World.cell?_spot h0
      subst hspot
      rw [add_plain] at hc
      exact ⟨b, off, rfl, hc⟩
    · simp at hk
theorem IsTxs.at_ {w : World} {a : Option Addr} {len cap : Nat} {l : List ByteArray} (h : IsTxs w a len cap l) (hl : 0 < len) : ∃ b off, a = some ⟨b, off, none⟩ ∧ ∀ k, k < len → ∃ s, s.size ≤ maxLen ∧ w.cell? ⟨b, off + k, none⟩ = some (.string s) := by
  obtain ⟨h1, h2, h3, _⟩ := h
  obtain ⟨b, off, e, hc⟩ := h2.addr (by simp; omega)
  refine ⟨b, off, e, fun k hk => ?_⟩
  have hk' : k < l.length := by omega
  exact ⟨l[k], h3 _ (List.getElem_mem hk'), hc k _ (by simp [hk'])⟩
end Go.Proofs.Ytodnfdkcmhiljaa
