/- Props that may be are taken as they were put: plain facts. -/
import Derived.Test.YtpmikhhnnjhiaaaPrLaw
import Derived.Test.YtpmikhhnnjhiaaaKeep
namespace Go.Proofs.Ytpmikhhnnjhiaaa
open Go.RowKit
set_option linter.unusedVariables false

def TagOk (l : List Int) : Prop := l = [] ∨ ∃ m, l = 33 :: m ∧ validF l = true ∧ ∀ z ∈ l, z ≠ 32
def AncOk (l : List Int) : Prop := l = [] ∨ nameF l = true
/-- A text of these props. -/
def PutOk (s tg an : List Int) : Prop := (s = [] ∧ tg = [] ∧ an = []) ∨ (s ≠ [] ∧ takeP s = (tg, an, s.length, true) ∧ ∀ r, tlOk r → takeP (s ++ 32 :: r) = (tg, an, s.length, true))
theorem name_all {l : List Int} (h : nameF l = true) : l.all nmb = true ∧ 1 ≤ l.length := by
  unfold nameF at h
  simp only [Bool.and_eq_true, decide_eq_true_eq] at h
  exact ⟨h.2, h.1.1⟩
theorem anc_no32 {l : List Int} (h : nameF l = true) : ∀ z ∈ (38 :: l : List Int), z ≠ 32 := by
  intro z hz
  rcases List.mem_cons.1 hz with rfl | hz
  · decide
  · exact name_no32 (name_all h).1 z hz
theorem put_ok (tg an : List Int) (hT : TagOk tg) (hA : AncOk an) : PutOk (putF tg an) tg an := by
  unfold putF
  rcases hA with rfl | hA
  · rw [show ([] : List Int).isEmpty = true from rfl, if_pos rfl]
    rcases hT with rfl | ⟨m, rfl, hv, h32⟩
    · exact .inl ⟨rfl, rfl, rfl⟩
    · have h := take_one (33 :: m) rfl h32 _ _ (with_tag m [] hv)
      exact .inr ⟨by simp, (h [] ⟨rfl, by simp⟩).2, fun r hr => (h r hr).1⟩
  · have hne : an.isEmpty = false := by
      cases an with
      | nil => simp [nameF] at hA
      | cons x t => rfl
    rw [hne]
    rcases hT with rfl | ⟨m, rfl, hv, h32⟩
    · have h := take_one (38 :: an) rfl (anc_no32 hA) _ _ (with_anchor an [] hA)
      exact .inr ⟨by simp, (h [] ⟨rfl, by simp⟩).2, fun r hr => (h r hr).1⟩
    · have h := take_two (38 :: an) (33 :: m) rfl rfl (anc_no32 hA) h32 _ _ _ _ (with_anchor an [] hA) (with_tag m an hv) 0
      have e : (38 :: an) ++ List.replicate (0 + 1) 32 ++ (33 :: m) = 38 :: an ++ 32 :: 33 :: m := by simp
      have l : (38 :: an).length + (0 + 1) + (33 :: m).length = (38 :: an ++ 32 :: 33 :: m).length := by simp; omega
      rw [e, l] at h
      exact .inr ⟨by simp, (h [] ⟨rfl, by simp⟩).2, fun r hr => (h r hr).1⟩
theorem turn_ok (tg an : List Int) (hT : TagOk tg) (hA : AncOk an) (h1 : tg ≠ []) (h2 : an ≠ []) : PutOk (tg ++ 32 :: 32 :: 38 :: an) tg an := by
  rcases hA with rfl | hA
  · exact absurd rfl h2
  rcases hT with rfl | ⟨m, rfl, hv, h32⟩
  · exact absurd rfl h1
  have h := take_two (33 :: m) (38 :: an) rfl rfl h32 (anc_no32 hA) _ _ _ _ (with_tag m [] hv) (with_anchor an (33 :: m) hA) 1
  have e : (33 :: m) ++ List.replicate (1 + 1) 32 ++ (38 :: an) = 33 :: m ++ 32 :: 32 :: 38 :: an := by simp [List.replicate_succ]
  have l : (33 :: m).length + (1 + 1) + (38 :: an).length = (33 :: m ++ 32 :: 32 :: 38 :: an).length := by simp; omega
  rw [e, l] at h
  exact .inr ⟨by simp, (h [] ⟨rfl, by simp⟩).2, fun r hr => (h r hr).1⟩
def tagL : List ByteArray := [⟨#[]⟩, ⟨#[33]⟩, ⟨#[33, 120]⟩, ⟨#[33, 33, 115, 116, 114]⟩, ⟨#[33, 33, 109, 97, 112]⟩]
theorem tagL_at : ∀ k, k < 5 → ∃ d : ByteArray, tagL[k]? = some d ∧ d.size ≤ 5 ∧ TagOk (byt d) := by
  intro k hk
  have : k = 0 ∨ k = 1 ∨ k = 2 ∨ k = 3 ∨ k = 4 := by omega
  rcases this with rfl | rfl | rfl | rfl | rfl
  · exact ⟨_, rfl, by decide, .inl rfl⟩
  · exact ⟨_, rfl, by decide, .inr ⟨[], rfl, by decide +kernel, by decide +kernel⟩⟩
  · exact ⟨_, rfl, by decide, .inr ⟨[120], rfl, by decide +kernel, by decide +kernel⟩⟩
  · exact ⟨_, rfl, by decide, .inr ⟨[33, 115, 116, 114], rfl, by decide +kernel, by decide +kernel⟩⟩
  · exact ⟨_, rfl, by decide, .inr ⟨[33, 109, 97, 112], rfl, by decide +kernel, by decide +kernel⟩⟩
theorem anc_at : ∀ k : Fin 10, nameF ((byt ⟨#[97, 110, 99, 104, 111, 114, 45, 49, 95, 120]⟩).take (1 + k.val)) = true := by decide +kernel
end Go.Proofs.Ytpmikhhnnjhiaaa
