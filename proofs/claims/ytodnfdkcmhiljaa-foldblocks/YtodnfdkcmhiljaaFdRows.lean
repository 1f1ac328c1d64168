/- Rows of texts of our own that are not long; what rows that end with one that is not empty come to. -/
import Derived.Test.YtodnfdkcmhiljaaFdLaw
namespace Go.Proofs.Ytodnfdkcmhiljaa
open Go.RowKit
set_option linter.unusedVariables false

def Txs (w W : World) (A : Option Addr) (m cap : Nat) (l : List ByteArray) : Prop := OwnT w W A m cap l ∧ ∀ s ∈ l, s.size ≤ 1000
theorem Txs.nil (w W : World) (h : Below w.heap.size w W) : Txs w W none 0 0 [] := ⟨OwnT.nil w W h, by simp⟩
theorem Txs.below {w W W' : World} {A : Option Addr} {m cap : Nat} {l : List ByteArray} (h : Txs w W A m cap l) (hb : Below W.heap.size W W') : Txs w W' A m cap l := ⟨h.1.below hb, h.2⟩
theorem Txs.bel {w W : World} {A : Option Addr} {m cap : Nat} {l : List ByteArray} (h : Txs w W A m cap l) : Below w.heap.size w W := h.1.2.2.1
theorem Txs.more {w W : World} {A : Option Addr} {m cap : Nat} {l : List ByteArray} (h : Txs w W A m cap l) (s : ByteArray) (hs : s.size ≤ 1000) (hm : m ≤ 1000) (g : Nat) (hg : g = W.heap.size) :
    ∃ A' cap' W', (Builtin.append_ #[22, 22] 22 #[.slice A m cap, .slice (some ⟨g, 0, none⟩) 1 1]).run Try.prog (W.alloc (.cells #[.string s] 9)) = .ok (.slice A' (m + 1) cap') W' ∧ Txs w W' A' (m + 1) cap' (l ++ [s]) := by
  obtain ⟨A', cap', W', hrun, hown⟩ := append_txt h.1 [s] 1 rfl #[.string s] rfl (by omega) g hg (m + 1) rfl (l ++ [s]) rfl
  refine ⟨A', cap', W', hrun, hown, ?_⟩
  intro x hx
  rcases List.mem_append.1 hx with h' | h'
  · exact h.2 x h'
  · simp at h'; subst h'; exact hs
theorem value_txs {w W : World} {A : Option Addr} {m cap : Nat} {l : List ByteArray} (h : Txs w W A m cap l) (hm : m ≤ 1000) (hd : Hd) :
    Calls Try.prog 16 #[hdV hd, .slice A m cap] W (TxtP (valueF hd (l.map byt)) W) :=
  value_any A m cap hd l W h.1.1 h.1.2.2.2.1 h.1.2.2.2.2.2 hm h.2 h.1.rd

theorem foldF_last (x : List Int) (hx : x ≠ []) : ∀ (l : List (List Int)) (last : List Int) (k : Nat), ∃ p, foldF last k (l ++ [x]) = p ++ x := by
  intro l
  induction l with
  | nil => intro last k; exact ⟨betw last x k, by simp [foldF, hx]⟩
  | cons r t ih =>
    intro last k
    simp only [List.cons_append, foldF]
    split
    · exact ih last (k + 1)
    · obtain ⟨p, hp⟩ := ih r 0
      exact ⟨betw last r k ++ (r ++ p), by rw [hp]; simp⟩
theorem joinT_snoc (x : List Int) : ∀ l : List (List Int), joinT (l ++ [x]) = joinT l ++ (10 :: x) := by
  intro l
  induction l with
  | nil => simp [joinT]
  | cons r t ih => simp only [List.cons_append, joinT, ih]; simp
/-- All rows, each with its break. -/
def brkd (l : List (List Int)) : List Int := l.flatMap (· ++ [10])
theorem joinT_brkd (x : List Int) : ∀ l : List (List Int), 10 :: x = 10 :: x ∧ ∀ r, r ++ joinT (l ++ [x]) = r ++ [10] ++ (brkd l ++ x) := by
  intro l
  refine ⟨rfl, ?_⟩
  induction l with
  | nil => intro r; simp [joinT, brkd]
  | cons s t ih =>
    intro r
    simp only [List.cons_append, joinT]
    rw [ih s]
    simp [brkd]
theorem joinF_snoc (x : List Int) (l : List (List Int)) : joinF (l ++ [x]) = brkd l ++ x := by
  cases l with
  | nil => simp [joinF, joinT, brkd]
  | cons r t =>
    simp only [List.cons_append, joinF]
    rw [(joinT_brkd x t).2 r]
    simp [brkd]
theorem value_ends (h : Hd) (l : List (List Int)) (x : List Int) (hx : x ≠ []) (n : Nat) :
    valueF h (l ++ [x] ++ List.replicate n []) = (if h.fo = true then foldF [] 0 (l ++ [x]) else joinF (l ++ [x])) ++ brs (endN h (l.length + 1) n) := by
  have ha : ahd (l ++ [x] ++ List.replicate n []) = l.length + 1 := by
    apply ahd_eq
    · simp
    · intro k h1 h2
      rw [List.getD, List.getElem?_append_right (by simp; omega)]
      simp only [List.length_append, List.length_cons, List.length_nil, List.length_replicate] at h2
      rw [List.getElem?_replicate, if_pos (by simp; omega)]
      rfl
    · intro _
      rw [show l.length + 1 - 1 = l.length by omega, List.getD, List.getElem?_append_left (by simp), List.getElem?_append_right (Nat.le_refl _)]
      simpa using hx
  have ht : List.take (l.length + 1) (l ++ [x] ++ List.replicate n []) = l ++ [x] := by
    rw [List.take_append_of_le_length (by simp)]; exact List.take_of_length_le (by simp)
  unfold valueF
  rw [ha, ht]
  congr 3
  simp
  omega
end Go.Proofs.Ytodnfdkcmhiljaa
