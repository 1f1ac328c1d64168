/- fold.with: a header with one sign more. -/
import Derived.Test.YtodnfdkcmhiljaaBytes
import Derived.Test.YtodnfdkcmhiljaaFdPure
namespace Go.Proofs.Ytodnfdkcmhiljaa
open Go.RowKit
set_option linter.unusedVariables false

def hdV (h : Hd) : Value := .agg #[.bool h.fo, .bool h.st, .bool h.ke, .int .i64 (h.dg : Int)]
def Hd.nil : Hd := ⟨false, false, false, 0⟩
def withR (h : Hd) (c : Int) : Hd × Bool := match withF h c with | some g => (g, true) | none => (Hd.nil, false)

theorem with_ways (h : Hd) (c : Int) : ((c = 45 ∨ c = 43) ∧ h.st = false ∧ h.ke = false ∧ withF h c = some ⟨h.fo, decide (c = 45), decide (c = 43), h.dg⟩) ∨
    (¬ ((c = 45 ∨ c = 43) ∧ h.st = false ∧ h.ke = false) ∧ 49 ≤ c ∧ c ≤ 57 ∧ h.dg = 0 ∧ withF h c = some ⟨h.fo, h.st, h.ke, (c - 48).toNat⟩) ∨
    (¬ ((c = 45 ∨ c = 43) ∧ h.st = false ∧ h.ke = false) ∧ ¬ (49 ≤ c ∧ c ≤ 57 ∧ h.dg = 0) ∧ withF h c = none) := by
  unfold withF
  by_cases h1 : (c = 45 ∨ c = 43) ∧ h.st = false ∧ h.ke = false
  · exact .inl ⟨h1.1, h1.2.1, h1.2.2, by rw [if_pos h1]⟩
  · by_cases h2 : 49 ≤ c ∧ c ≤ 57 ∧ h.dg = 0
    · exact .inr (.inl ⟨h1, h2.1, h2.2.1, h2.2.2, by rw [if_neg h1, if_pos h2]⟩)
    · exact .inr (.inr ⟨h1, h2, by rw [if_neg h1, if_neg h2]⟩)

theorem with_none (fo st ke : Bool) (dg : Nat) (c : Int) (hn : ¬ ((c = 45 ∨ c = 43) ∧ st = false ∧ ke = false)) (hn2 : ¬ (49 ≤ c ∧ c ≤ 57 ∧ dg = 0)) :
    (c = 45 ∧ st = true) ∨ (c = 43 ∧ st = true) ∨ (c = 45 ∧ st = false ∧ ke = true) ∨ (c = 43 ∧ st = false ∧ ke = true) ∨
    (c ≠ 45 ∧ c ≠ 43 ∧ c < 48) ∨ c = 48 ∨ (c ≠ 45 ∧ c ≠ 43 ∧ 49 ≤ c ∧ c ≤ 57 ∧ dg ≠ 0) ∨ 57 < c := by
  by_cases h1 : c = 45
  · cases st with
    | true => exact .inl ⟨h1, rfl⟩
    | false => cases ke with
      | true => exact .inr (.inr (.inl ⟨h1, rfl, rfl⟩))
      | false => exact absurd ⟨.inl h1, rfl, rfl⟩ hn
  · by_cases h2 : c = 43
    · cases st with
      | true => exact .inr (.inl ⟨h2, rfl⟩)
      | false => cases ke with
        | true => exact .inr (.inr (.inr (.inl ⟨h2, rfl, rfl⟩)))
        | false => exact absurd ⟨.inr h2, rfl, rfl⟩ hn
    · by_cases h3 : c < 48
      · exact .inr (.inr (.inr (.inr (.inl ⟨h1, h2, h3⟩))))
      · by_cases h4 : c = 48
        · exact .inr (.inr (.inr (.inr (.inr (.inl h4)))))
        · by_cases h5 : c ≤ 57
          · exact .inr (.inr (.inr (.inr (.inr (.inr (.inl ⟨h1, h2, by omega, h5, fun h => hn2 ⟨by omega, h5, h⟩⟩))))))
          · exact .inr (.inr (.inr (.inr (.inr (.inr (.inr (by omega)))))))

set_option maxHeartbeats 4000000 in
theorem with_any (h : Hd) (c : Int) (h0 : 0 ≤ c) (h1 : c < 256) (w : World) :
    Calls Try.prog 27 #[hdV h, .int .u8 c] w fun e w' => e = .returned (.tuple #[hdV (withR h c).1, .bool (withR h c).2]) ∧ Below w.heap.size w w' := by
  obtain ⟨fo, st, ke, dg⟩ := h
  rcases with_ways ⟨fo, st, ke, dg⟩ c with ⟨hc, hs, hk, hw⟩ | ⟨hn, hc1, hc2, hdg, hw⟩ | ⟨hn, hn2, hw⟩
  · simp only [] at hs hk
    subst hs hk
    unfold withR
    rw [hw]
    clear hw h0 h1
    rcases hc with rfl | rfl
    · unfold hdV
      go_enter Try.func27, Try.ntmps27
      go_wp2
      exact bodyPost_ret (v := .tuple #[hdV ⟨fo, true, false, dg⟩, .bool true]) (by simp [results, Try.results27, go_sem, hdV]) rfl ⟨by simp [hdV], ((Below.refl _ _).alloc (Nat.le_refl _) _).alloc (by simp) _⟩
    · unfold hdV
      go_enter Try.func27, Try.ntmps27
      go_wp2
      exact bodyPost_ret (v := .tuple #[hdV ⟨fo, false, true, dg⟩, .bool true]) (by simp [results, Try.results27, go_sem, hdV]) rfl ⟨by simp [hdV], ((Below.refl _ _).alloc (Nat.le_refl _) _).alloc (by simp) _⟩
  · simp only [] at hdg
    subst hdg
    unfold withR
    rw [hw]
    have e1 : (c == 45) = false := beq_eq_false_iff_ne.2 (by omega)
    have e2 : (c == 43) = false := beq_eq_false_iff_ne.2 (by omega)
    have e3 : (c == 48) = false := beq_eq_false_iff_ne.2 (by omega)
    have g1 : 48 ≤ c := by omega
    obtain ⟨d, hd⟩ : ∃ d : Nat, (c - 48).toNat = d := ⟨_, rfl⟩
    have hd2 : (d : Int) = c - 48 := by omega
    clear hw hn
    simp only [hd]
    clear hd
    have HD := Lib.hid hd2
    clear hd2
    unfold hdV
    go_enter Try.func27, Try.ntmps27
    go_wp2
    refine bodyPost_ret (v := .tuple #[hdV ⟨fo, st, ke, d⟩, .bool true]) (by simp [results, Try.results27, go_sem, hdV]; have := HD.out; omega) rfl ⟨by simp [hdV], ((Below.refl _ _).alloc (Nat.le_refl _) _).alloc (by simp) _⟩
  · unfold withR
    rw [hw]
    have hways := with_none fo st ke dg c hn hn2
    clear hn hn2 hw
    unfold hdV Hd.nil
    simp only []
    rcases hways with ⟨rfl, rfl⟩ | ⟨rfl, rfl⟩ | ⟨rfl, rfl, rfl⟩ | ⟨rfl, rfl, rfl⟩ | ⟨e1, e2, e3⟩ | rfl | ⟨e1, e2, e3, e4, e5⟩ | e3
    · skip
      go_enter Try.func27, Try.ntmps27
      go_wp2
      exact bodyPost_ret (v := .tuple #[hdV ⟨false, false, false, 0⟩, .bool false]) (by simp [results, Try.results27, go_sem, hdV]) rfl ⟨by simp [hdV], ((Below.refl _ _).alloc (Nat.le_refl _) _).alloc (by simp) _⟩
    · skip
      go_enter Try.func27, Try.ntmps27
      go_wp2
      exact bodyPost_ret (v := .tuple #[hdV ⟨false, false, false, 0⟩, .bool false]) (by simp [results, Try.results27, go_sem, hdV]) rfl ⟨by simp [hdV], ((Below.refl _ _).alloc (Nat.le_refl _) _).alloc (by simp) _⟩
    · skip
      go_enter Try.func27, Try.ntmps27
      go_wp2
      exact bodyPost_ret (v := .tuple #[hdV ⟨false, false, false, 0⟩, .bool false]) (by simp [results, Try.results27, go_sem, hdV]) rfl ⟨by simp [hdV], ((Below.refl _ _).alloc (Nat.le_refl _) _).alloc (by simp) _⟩
    · skip
      go_enter Try.func27, Try.ntmps27
      go_wp2
      exact bodyPost_ret (v := .tuple #[hdV ⟨false, false, false, 0⟩, .bool false]) (by simp [results, Try.results27, go_sem, hdV]) rfl ⟨by simp [hdV], ((Below.refl _ _).alloc (Nat.le_refl _) _).alloc (by simp) _⟩
    · have f1 : (c == 45) = false := beq_eq_false_iff_ne.2 e1
      have f2 : (c == 43) = false := beq_eq_false_iff_ne.2 e2
      have f3 : decide (48 ≤ c) = false := decide_eq_false (by omega)
      clear e1 e2
      go_enter Try.func27, Try.ntmps27
      go_wp2
      exact bodyPost_ret (v := .tuple #[hdV ⟨false, false, false, 0⟩, .bool false]) (by simp [results, Try.results27, go_sem, hdV]) rfl ⟨by simp [hdV], ((Below.refl _ _).alloc (Nat.le_refl _) _).alloc (by simp) _⟩
    · skip
      go_enter Try.func27, Try.ntmps27
      go_wp2
      exact bodyPost_ret (v := .tuple #[hdV ⟨false, false, false, 0⟩, .bool false]) (by simp [results, Try.results27, go_sem, hdV]) rfl ⟨by simp [hdV], ((Below.refl _ _).alloc (Nat.le_refl _) _).alloc (by simp) _⟩
    · have f1 : (c == 45) = false := beq_eq_false_iff_ne.2 e1
      have f2 : (c == 43) = false := beq_eq_false_iff_ne.2 e2
      have f3 : (c == 48) = false := beq_eq_false_iff_ne.2 (by omega)
      have f4 : ((dg : Int) == 0) = false := beq_eq_false_iff_ne.2 (by omega)
      have g1 : 48 ≤ c := by omega
      clear e1 e2 e5
      go_enter Try.func27, Try.ntmps27
      go_wp2
      exact bodyPost_ret (v := .tuple #[hdV ⟨false, false, false, 0⟩, .bool false]) (by simp [results, Try.results27, go_sem, hdV]) rfl ⟨by simp [hdV], ((Below.refl _ _).alloc (Nat.le_refl _) _).alloc (by simp) _⟩
    · have f1 : (c == 45) = false := beq_eq_false_iff_ne.2 (by omega)
      have f2 : (c == 43) = false := beq_eq_false_iff_ne.2 (by omega)
      have f3 : decide (c ≤ 57) = false := decide_eq_false (by omega)
      have g1 : 48 ≤ c := by omega
      go_enter Try.func27, Try.ntmps27
      go_wp2
      exact bodyPost_ret (v := .tuple #[hdV ⟨false, false, false, 0⟩, .bool false]) (by simp [results, Try.results27, go_sem, hdV]) rfl ⟨by simp [hdV], ((Below.refl _ _).alloc (Nat.le_refl _) _).alloc (by simp) _⟩
end Go.Proofs.Ytodnfdkcmhiljaa
