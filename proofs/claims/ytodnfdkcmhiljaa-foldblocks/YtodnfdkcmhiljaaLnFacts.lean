/- What the laws ask of lines: where an offset lies. No program. -/
import Derived.Test.YtodnfdkcmhiljaaLnMore
namespace Go.Proofs.Ytodnfdkcmhiljaa
open Go.RowKit

theorem split_chn (zs : List Int) : Chn zs (bgn zs) (splitF zs) := rest_chn zs (bgn zs)
theorem split_len (zs : List Int) : (splitF zs).length ≤ zs.length := by
  have := chn_len zs _ _ (split_chn zs) (bgn_le zs); omega
theorem split_bd (zs : List Int) (k : Nat) (hk : k < (splitF zs).length) : (lnAt (splitF zs) k).f ≤ (lnAt (splitF zs) k).t ∧ (lnAt (splitF zs) k).t ≤ (lnAt (splitF zs) k).n ∧ (lnAt (splitF zs) k).n ≤ zs.length ∧ (lnAt (splitF zs) k).f < (lnAt (splitF zs) k).n := by
  obtain ⟨h1, h2, h3, _⟩ := chn_at zs _ _ k (split_chn zs) hk
  have hb := lnF_bd zs (lnAt (splitF zs) k).f (by omega)
  rw [← h3] at hb
  exact ⟨hb.1, hb.2.1, hb.2.2.1, hb.2.2.2 h2⟩
theorem split_small (zs : List Int) (h : zs.length ≤ 1000000) : Small (splitF zs) := by
  intro k
  by_cases hk : k < (splitF zs).length
  · have := split_bd zs k hk; omega
  · have : lnAt (splitF zs) k = Ln.nil := by unfold lnAt; simp [List.getD, List.getElem?_eq_none (Nat.le_of_not_lt hk)]
    rw [this]; simp [Ln.nil]

theorem at_minus (ls : List Ln) : atF ls (-1) = (-1, 0) := by
  unfold atF
  rw [lastI_no _ _ (fun j _ => by unfold atP; exact decide_eq_false (by omega))]
  rfl
/-- An offset's line, in a chain. -/
theorem at_chn (zs : List Int) (o : Nat) :
    ((splitF zs).length = 0 ∧ atF (splitF zs) o = (-1, 0)) ∨ (0 < (splitF zs).length ∧ o < (lnAt (splitF zs) 0).f ∧ atF (splitF zs) o = (-1, 0)) ∨
    ∃ k : Nat, k < (splitF zs).length ∧ (lnAt (splitF zs) 0).f ≤ o ∧ (lnAt (splitF zs) k).f ≤ o ∧ atF (splitF zs) o = ((k : Int), (o : Int) - ((lnAt (splitF zs) k).f : Int)) ∧ (k + 1 = (splitF zs).length ∨ (k + 1 < (splitF zs).length ∧ o < (lnAt (splitF zs) (k + 1)).f)) := by
  have hc := split_chn zs
  generalize splitF zs = ls at *
  by_cases h0 : ls.length = 0
  · refine .inl ⟨h0, ?_⟩
    unfold atF; rw [h0]; rfl
  · by_cases h1 : o < (lnAt ls 0).f
    · refine .inr (.inl ⟨by omega, h1, ?_⟩)
      unfold atF
      rw [lastI_no _ _ (fun j hj => ?_)]
      · rfl
      · unfold atP
        have : (lnAt ls 0).f ≤ (lnAt ls j).f := by
          by_cases hj0 : j = 0
          · subst hj0; omega
          · have h2 := chn_mono zs ls _ hc 0 j (by omega) hj
            obtain ⟨_, h4, h5, _⟩ := chn_at zs ls _ 0 hc (by omega)
            have hb := lnF_bd zs (lnAt ls 0).f (by omega)
            rw [← h5] at hb
            omega
        exact decide_eq_false (by omega)
    · refine .inr (.inr ?_)
      cases hl : lastI (atP ls o) ls.length with
      | none =>
        have := lastI_none _ _ hl 0 (by omega)
        unfold atP at this
        have := of_decide_eq_false this
        omega
      | some k =>
        obtain ⟨k1, k2, k3⟩ := lastI_some _ _ _ hl
        unfold atP at k2
        have k2' := of_decide_eq_true k2
        refine ⟨k, k1, by omega, by omega, by unfold atF; rw [hl]; rfl, ?_⟩
        by_cases hk : k + 1 = ls.length
        · exact .inl hk
        · refine .inr ⟨by omega, ?_⟩
          have := k3 (k + 1) (by omega) (by omega)
          unfold atP at this
          have := of_decide_eq_false this
          omega
/-- An offset within a line lies on it. -/
theorem at_in (zs : List Int) (i o : Nat) (hi : i < (splitF zs).length) (h1 : (lnAt (splitF zs) i).f ≤ o) (h2 : o < (lnAt (splitF zs) i).n) : atF (splitF zs) o = ((i : Int), (o : Int) - ((lnAt (splitF zs) i).f : Int)) := by
  have hc := split_chn zs
  generalize splitF zs = ls at *
  unfold atF
  rw [lastI_eq (atP ls o) ls.length i hi (by unfold atP; exact decide_eq_true (by omega)) (fun j h3 h4 => by
    unfold atP
    have := chn_mono zs ls _ hc i j h3 h4
    exact decide_eq_false (by omega))]
  rfl
end Go.Proofs.Ytodnfdkcmhiljaa
