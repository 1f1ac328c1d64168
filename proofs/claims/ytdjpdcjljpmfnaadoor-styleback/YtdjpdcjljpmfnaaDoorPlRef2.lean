/- The contracts of PlainLength and PlainValid, the document's answers. -/
import Derived.Test.YtdjpdcjljpmfnaaDoorPlRef
namespace Go.Proofs.YtdjpdcjljpmfnaaDoor
open Go.RowKit
set_option linter.unusedVariables false
set_option maxRecDepth 100000

def flS : ByteArray := ⟨#[44, 91, 93, 123, 125]⟩
theorem join_cases (zs : List Int) (n : Nat) (hl : zs.length = n) (fl : Bool) (k : Nat) : (joinF (zs.drop (k + 1)) fl = false ↔ (n ≤ k + 1 ∨ k + 1 < n ∧ zs.getD (k + 1) 0 = 9 ∨ k + 1 < n ∧ zs.getD (k + 1) 0 = 32 ∨ k + 1 < n ∧ zs.getD (k + 1) 0 ≠ 9 ∧ zs.getD (k + 1) 0 ≠ 32 ∧ fl = true ∧ flo (zs.getD (k + 1) 0) = true)) ∧
    (joinF (zs.drop (k + 1)) fl = true ↔ (k + 1 < n ∧ zs.getD (k + 1) 0 ≠ 9 ∧ zs.getD (k + 1) 0 ≠ 32 ∧ (fl = false ∨ flo (zs.getD (k + 1) 0) = false))) := by
  unfold joinF
  rw [getD_drop, List.length_drop, hl, Nat.add_zero]
  unfold blk
  generalize zs.getD (k + 1) 0 = y
  by_cases h : k + 1 < n
  · rw [decide_eq_true (show 0 < n - (k + 1) by omega)]
    by_cases h9 : y = 9
    · subst h9; simp; omega
    · by_cases h32 : y = 32
      · subst h32; simp; omega
      · cases fl <;> cases hf : flo y <;> simp [h9, h32, h] <;> omega
  · rw [decide_eq_false (show ¬ 0 < n - (k + 1) by omega)]
    simp; omega
/-- Where it ends: test by test. -/
theorem end_ways {zs : List Int} {n : Nat} (hl : zs.length = n) {fl : Bool} {k : Nat} (h : endF zs fl k = true) : zs.getD k 0 = 9 ∨ (zs.getD k 0 = 58 ∧ n ≤ k + 1) ∨ (zs.getD k 0 = 58 ∧ k + 1 < n ∧ zs.getD (k + 1) 0 = 9) ∨ (zs.getD k 0 = 58 ∧ k + 1 < n ∧ zs.getD (k + 1) 0 = 32) ∨
    (zs.getD k 0 = 58 ∧ k + 1 < n ∧ (zs.getD (k + 1) 0 == 9) = false ∧ (zs.getD (k + 1) 0 == 32) = false ∧ fl = true ∧ hasB flS (zs.getD (k + 1) 0) = true) ∨ (zs.getD k 0 = 35 ∧ 0 < k ∧ zs.getD (k - 1) 0 = 32) ∨
    ((zs.getD k 0 == 9) = false ∧ (zs.getD k 0 == 58) = false ∧ (zs.getD k 0 == 35) = false ∧ fl = true ∧ hasB flS (zs.getD k 0) = true) := by
  have hj := (join_cases zs n hl fl k).1
  unfold endF endC at h
  simp only [Bool.or_eq_true, Bool.and_eq_true, Bool.not_eq_true', beq_iff_eq, decide_eq_true_eq] at h
  by_cases h9 : zs.getD k 0 = 9
  · exact .inl h9
  · rcases h with ((h | h) | h) | h
    · exact .inl h
    · rcases hj.1 h.2 with g | g | g | g
      · exact .inr (.inl ⟨h.1, g⟩)
      · exact .inr (.inr (.inl ⟨h.1, g⟩))
      · exact .inr (.inr (.inr (.inl ⟨h.1, g⟩)))
      · exact .inr (.inr (.inr (.inr (.inl ⟨h.1, g.1, beq_eq_false_iff_ne.2 g.2.1, beq_eq_false_iff_ne.2 g.2.2.1, g.2.2.2.1, g.2.2.2.2⟩))))
    · exact .inr (.inr (.inr (.inr (.inr (.inl h)))))
    · refine .inr (.inr (.inr (.inr (.inr (.inr ⟨beq_eq_false_iff_ne.2 h9, beq_eq_false_iff_ne.2 ?_, beq_eq_false_iff_ne.2 ?_, h.1, h.2⟩)))))
      · intro e; rw [e] at h; exact absurd h.2 (by decide)
      · intro e; rw [e] at h; exact absurd h.2 (by decide)
/-- Where it goes on: test by test. -/
theorem on_ways {zs : List Int} {n : Nat} (hl : zs.length = n) {fl : Bool} {k : Nat} (h : endF zs fl k = false) :
    (zs.getD k 0 = 58 ∧ k + 1 < n ∧ (zs.getD (k + 1) 0 == 9) = false ∧ (zs.getD (k + 1) 0 == 32) = false ∧ fl = false) ∨
    (zs.getD k 0 = 58 ∧ k + 1 < n ∧ (zs.getD (k + 1) 0 == 9) = false ∧ (zs.getD (k + 1) 0 == 32) = false ∧ fl = true ∧ hasB flS (zs.getD (k + 1) 0) = false) ∨
    (zs.getD k 0 = 35 ∧ k = 0) ∨ (zs.getD k 0 = 35 ∧ 0 < k ∧ (zs.getD (k - 1) 0 == 32) = false) ∨
    ((zs.getD k 0 == 9) = false ∧ (zs.getD k 0 == 58) = false ∧ (zs.getD k 0 == 35) = false ∧ fl = false) ∨
    ((zs.getD k 0 == 9) = false ∧ (zs.getD k 0 == 58) = false ∧ (zs.getD k 0 == 35) = false ∧ fl = true ∧ hasB flS (zs.getD k 0) = false) := by
  have hj := (join_cases zs n hl fl k).2
  unfold endF endC at h
  simp only [Bool.or_eq_false_iff, Bool.and_eq_false_iff, Bool.not_eq_false', beq_eq_false_iff_ne, decide_eq_false_iff_not] at h
  obtain ⟨⟨⟨h9, h58⟩, h35⟩, hf⟩ := h
  by_cases e58 : zs.getD k 0 = 58
  · rcases h58 with h58 | h58
    · exact absurd e58 h58
    · obtain ⟨g1, g2, g3, g4⟩ := hj.1 h58
      cases fl
      · exact .inl ⟨e58, g1, beq_eq_false_iff_ne.2 g2, beq_eq_false_iff_ne.2 g3, rfl⟩
      · rcases g4 with g4 | g4
        · cases g4
        · exact .inr (.inl ⟨e58, g1, beq_eq_false_iff_ne.2 g2, beq_eq_false_iff_ne.2 g3, rfl, g4⟩)
  · by_cases e35 : zs.getD k 0 = 35
    · rcases h35 with h35 | h35 | h35
      · exact absurd e35 h35
      · exact .inr (.inr (.inl ⟨e35, by omega⟩))
      · rcases Nat.eq_zero_or_pos k with h0 | h0
        · exact .inr (.inr (.inl ⟨e35, h0⟩))
        · exact .inr (.inr (.inr (.inl ⟨e35, h0, beq_eq_false_iff_ne.2 h35⟩)))
    · cases fl
      · exact .inr (.inr (.inr (.inr (.inl ⟨beq_eq_false_iff_ne.2 h9, beq_eq_false_iff_ne.2 e58, beq_eq_false_iff_ne.2 e35, rfl⟩))))
      · rcases hf with hf | hf
        · cases hf
        · exact .inr (.inr (.inr (.inr (.inr ⟨beq_eq_false_iff_ne.2 h9, beq_eq_false_iff_ne.2 e58, beq_eq_false_iff_ne.2 e35, rfl, hf⟩))))

set_option maxHeartbeats 8000000 in
set_option maxRecDepth 100000 in
theorem refLength_any (A : Option Addr) (n c : Nat) (zs : List Int) (fl : Bool) (w : World) (hl : zs.length = n) (hnc : n ≤ c) (hm : c ≤ 9223372036854775807) (hb : Byte zs) (hr : RdB w A zs) (v : Nat) (hv : lenF zs fl = v) :
    Calls Tryd.prog 38 #[.slice A n c, .bool fl] w fun e w' => e = .returned (.int .i64 (v : Int)) ∧ w = w' := by
  have S := refStarts_any A n c zs fl w hl hnc hm hb hr _ rfl
  have HS := Lib.hid S
  have HV := Lib.hid hv
  clear S hv
  cases hs : startF zs fl
  · have hv : v = 0 := by rw [← HV.out, lenF_no hs]
    subst hv
    rw [hs] at HS
    clear hs hr hl hb
    go_enter Tryd.func38, Tryd.ntmps38
    go_wp2_with (go_at_call 62; refine HS.out.mono ?_; rintro e w' ⟨rfl, rfl⟩)
    go_ret
    exact ⟨rfl, rfl⟩
  · rw [hs] at HS
    have h0 := start_len hs
    rw [hl] at h0
    obtain ⟨b, off, rfl, hc⟩ := hr.addr (by omega)
    have HC : Hid (∀ k, k < n → w.cell? ⟨b, off + k, none⟩ = some (.int .u8 (zs.getD k 0))) := fun k hk => hc k (by omega)
    have HL := Lib.hid hl
    have HST := Lib.hid hs
    clear hs hr hl hb hc
    go_enter Tryd.func38, Tryd.ntmps38
    go_wp2_with (go_at_call 62; refine HS.out.mono ?_; rintro e w' ⟨rfl, rfl⟩)
    have HFS : Hid (hasB ⟨#[44, 91, 93, 123, 125]⟩ 58 = false ∧ hasB ⟨#[44, 91, 93, 123, 125]⟩ 35 = false) := ⟨by decide, by decide⟩
    go_loop [5] (fun i => ∃ k : Nat, k ≤ n ∧ i = .int .i64 (k : Int) ∧ Hid (∀ i, i < k → endF zs fl i = false)) (fun i => n - (intOf i).toNat)
    case atStart => exact ⟨0, by omega, rfl, fun i hi => by omega⟩
    case round =>
      obtain ⟨k, hk, rfl, HK⟩ := hrel
      have fin : k = n ∨ endF zs fl k = true → v = trimF zs k := by
        intro h
        rw [← HV.out]
        exact lenF_at HST.out k (by rw [HL.out]; exact hk) HK.out (by rw [HL.out]; exact h)
      have FIN := Lib.hid fin
      clear fin
      have hS : flS = ⟨#[44, 91, 93, 123, 125]⟩ := rfl
      by_cases hlt : k < n
      · have d : (k : Int) < (n : Int) := by omega
        have ck := HC.out k hlt
        cases hend : endF zs fl k
        · have hn : ∀ i, i < k + 1 → endF zs fl i = false := by
            intro i hi
            rcases Nat.lt_succ_iff_lt_or_eq.1 hi with h | h
            · exact HK.out i h
            · subst h; exact hend
          have HN := Lib.hid hn
          have ways := on_ways HL.out hend
          rw [hS] at ways
          clear hn hend FIN HK hS
          rcases ways with ⟨h1, h2, h3, h4, rfl⟩ | ⟨h1, h2, h3, h4, rfl, h5⟩ | ⟨h1, rfl⟩ | ⟨h1, h2, h3⟩ | ⟨h1, h2, h3, rfl⟩ | ⟨h1, h2, h3, rfl, h5⟩
          · have ck1 := HC.out (k + 1) h2
            rw [h1] at ck
            have d1 : (k : Int) + 1 < (n : Int) := by omega
            have d2 : ((k : Int) + 1 == (n : Int)) = false := beq_eq_false_iff_ne.2 (by omega)
            have f58 := HFS.out.1
            generalize zs.getD (k + 1) 0 = y at *
            clear h1
            go_wp2_with (go_at_call 63; refine (refIn_has _ _ _ (by decide)).mono ?_; rintro e w' ⟨rfl, rfl⟩)
            go_round
            case rel => exact ⟨k + 1, by omega, by go_num, HN⟩
            case measure => simp [intOf]; omega
          · have ck1 := HC.out (k + 1) h2
            rw [h1] at ck
            have d1 : (k : Int) + 1 < (n : Int) := by omega
            have d2 : ((k : Int) + 1 == (n : Int)) = false := beq_eq_false_iff_ne.2 (by omega)
            have f58 := HFS.out.1
            generalize zs.getD (k + 1) 0 = y at *
            clear h1
            go_wp2_with (go_at_call 63; refine (refIn_has _ _ _ (by decide)).mono ?_; rintro e w' ⟨rfl, rfl⟩)
            go_round
            case rel => exact ⟨k + 1, by omega, by go_num, HN⟩
            case measure => simp [intOf]; omega
          · rw [h1, Nat.add_zero] at ck
            rw [show ((0 : Nat) : Int) = 0 from rfl] at d ⊢
            have f35 := HFS.out.2
            clear h1
            cases fl
            all_goals
              go_wp2_with (go_at_call 63; refine (refIn_has _ _ _ (by decide)).mono ?_; rintro e w' ⟨rfl, rfl⟩)
              go_round
              case rel => exact ⟨1, by omega, by go_num, HN⟩
              case measure => simp [intOf]; omega
          · rw [h1] at ck
            obtain ⟨j, rfl⟩ : ∃ j, k = j + 1 := ⟨k - 1, by omega⟩
            rw [show j + 1 - 1 = j by omega] at h3
            have cj := HC.out j (by omega)
            rw [show ((j + 1 : Nat) : Int) = (j : Int) + 1 by omega] at d ⊢
            have d0 : (0 : Int) < (j : Int) + 1 := by omega
            have dj : (j : Int) < (n : Int) := by omega
            have f35 := HFS.out.2
            generalize zs.getD j 0 = y at *
            clear h1
            cases fl
            all_goals
              go_wp2_with (go_at_call 63; refine (refIn_has _ _ _ (by decide)).mono ?_; rintro e w' ⟨rfl, rfl⟩)
              go_round
              case rel => exact ⟨j + 1 + 1, by omega, by go_num, HN⟩
              case measure => simp [intOf]; omega
          · generalize zs.getD k 0 = x at *
            go_wp2_with (go_at_call 63; refine (refIn_has _ _ _ (by decide)).mono ?_; rintro e w' ⟨rfl, rfl⟩)
            go_round
            case rel => exact ⟨k + 1, by omega, by go_num, HN⟩
            case measure => simp [intOf]; omega
          · generalize zs.getD k 0 = x at *
            go_wp2_with (go_at_call 63; refine (refIn_has _ _ _ (by decide)).mono ?_; rintro e w' ⟨rfl, rfl⟩)
            go_round
            case rel => exact ⟨k + 1, by omega, by go_num, HN⟩
            case measure => simp [intOf]; omega
        · have hv := FIN.out (.inr hend)
          have HV2 := Lib.hid hv
          have ways := end_ways HL.out hend
          rw [hS] at ways
          clear hv hend FIN HK hS
          rcases ways with h1 | ⟨h1, h2⟩ | ⟨h1, h2, h3⟩ | ⟨h1, h2, h3⟩ | ⟨h1, h2, h3, h4, rfl, h5⟩ | ⟨h1, h2, h3⟩ | ⟨h1, h2, h3, rfl, h5⟩
          · rw [h1] at ck
            clear h1
            go_wp2_with (go_at_call 63; refine (refIn_has _ _ _ (by decide)).mono ?_; rintro e w' ⟨rfl, rfl⟩)
            clear ck d
            go_loop [5] (fun i => ∃ q : Nat, q ≤ n ∧ i = .int .i64 (q : Int) ∧ Hid (v = trimF zs q)) (fun i => (intOf i).toNat)
            case atStart => exact ⟨k, hk, rfl, HV2⟩
            case round =>
              obtain ⟨q, hq, rfl, HQ⟩ := hrel
              by_cases h0q : 0 < q
              · obtain ⟨j', rfl⟩ : ∃ j, q = j + 1 := ⟨q - 1, by omega⟩
                have c0 := HC.out j' (by omega)
                rw [show ((j' + 1 : Nat) : Int) = (j' : Int) + 1 by omega]
                have d0' : (0 : Int) < (j' : Int) + 1 := by omega
                have dj' : (j' : Int) < (n : Int) := by omega
                by_cases h32' : zs.getD j' 0 = 32
                · have hv : v = trimF zs j' := by rw [HQ.out, trimF_step zs j' h32']
                  have HV3 := Lib.hid hv
                  rw [h32'] at c0
                  clear hv h32'
                  go_wp2_with fail
                  go_round
                  case rel => exact ⟨j', by omega, by go_num, HV3⟩
                  case measure => simp [intOf]
                · have hv : v = j' + 1 := by rw [HQ.out, trimF_stay zs j' h32']
                  have hsp : (zs.getD j' 0 == 32) = false := beq_eq_false_iff_ne.2 h32'
                  have HV3 := Lib.hid hv
                  clear hv h32'
                  generalize zs.getD j' 0 = y' at *
                  go_wp2_with fail
                  go_ret
                  exact ⟨ret_int (by rw [HV3.out]; omega), rfl⟩
              · obtain rfl : q = 0 := by omega
                have hv : v = 0 := HQ.out
                subst hv
                go_wp2_with fail
                go_ret
                exact ⟨rfl, rfl⟩
          · rw [h1] at ck
            have d2 : ((k : Int) + 1 == (n : Int)) = true := beq_iff_eq.2 (by omega)
            clear h1
            go_wp2_with (go_at_call 63; refine (refIn_has _ _ _ (by decide)).mono ?_; rintro e w' ⟨rfl, rfl⟩)
            clear ck d d2
            go_loop [5] (fun i => ∃ q : Nat, q ≤ n ∧ i = .int .i64 (q : Int) ∧ Hid (v = trimF zs q)) (fun i => (intOf i).toNat)
            case atStart => exact ⟨k, hk, rfl, HV2⟩
            case round =>
              obtain ⟨q, hq, rfl, HQ⟩ := hrel
              by_cases h0q : 0 < q
              · obtain ⟨j', rfl⟩ : ∃ j, q = j + 1 := ⟨q - 1, by omega⟩
                have c0 := HC.out j' (by omega)
                rw [show ((j' + 1 : Nat) : Int) = (j' : Int) + 1 by omega]
                have d0' : (0 : Int) < (j' : Int) + 1 := by omega
                have dj' : (j' : Int) < (n : Int) := by omega
                by_cases h32' : zs.getD j' 0 = 32
                · have hv : v = trimF zs j' := by rw [HQ.out, trimF_step zs j' h32']
                  have HV3 := Lib.hid hv
                  rw [h32'] at c0
                  clear hv h32'
                  go_wp2_with fail
                  go_round
                  case rel => exact ⟨j', by omega, by go_num, HV3⟩
                  case measure => simp [intOf]
                · have hv : v = j' + 1 := by rw [HQ.out, trimF_stay zs j' h32']
                  have hsp : (zs.getD j' 0 == 32) = false := beq_eq_false_iff_ne.2 h32'
                  have HV3 := Lib.hid hv
                  clear hv h32'
                  generalize zs.getD j' 0 = y' at *
                  go_wp2_with fail
                  go_ret
                  exact ⟨ret_int (by rw [HV3.out]; omega), rfl⟩
              · obtain rfl : q = 0 := by omega
                have hv : v = 0 := HQ.out
                subst hv
                go_wp2_with fail
                go_ret
                exact ⟨rfl, rfl⟩
          · have ck1 := HC.out (k + 1) h2
            rw [h1] at ck
            rw [h3] at ck1
            have d1 : (k : Int) + 1 < (n : Int) := by omega
            have d2 : ((k : Int) + 1 == (n : Int)) = false := beq_eq_false_iff_ne.2 (by omega)
            clear h1 h3
            go_wp2_with (go_at_call 63; refine (refIn_has _ _ _ (by decide)).mono ?_; rintro e w' ⟨rfl, rfl⟩)
            clear ck d ck1 d1 d2
            go_loop [5] (fun i => ∃ q : Nat, q ≤ n ∧ i = .int .i64 (q : Int) ∧ Hid (v = trimF zs q)) (fun i => (intOf i).toNat)
            case atStart => exact ⟨k, hk, rfl, HV2⟩
            case round =>
              obtain ⟨q, hq, rfl, HQ⟩ := hrel
              by_cases h0q : 0 < q
              · obtain ⟨j', rfl⟩ : ∃ j, q = j + 1 := ⟨q - 1, by omega⟩
                have c0 := HC.out j' (by omega)
                rw [show ((j' + 1 : Nat) : Int) = (j' : Int) + 1 by omega]
                have d0' : (0 : Int) < (j' : Int) + 1 := by omega
                have dj' : (j' : Int) < (n : Int) := by omega
                by_cases h32' : zs.getD j' 0 = 32
                · have hv : v = trimF zs j' := by rw [HQ.out, trimF_step zs j' h32']
                  have HV3 := Lib.hid hv
                  rw [h32'] at c0
                  clear hv h32'
                  go_wp2_with fail
                  go_round
                  case rel => exact ⟨j', by omega, by go_num, HV3⟩
                  case measure => simp [intOf]
                · have hv : v = j' + 1 := by rw [HQ.out, trimF_stay zs j' h32']
                  have hsp : (zs.getD j' 0 == 32) = false := beq_eq_false_iff_ne.2 h32'
                  have HV3 := Lib.hid hv
                  clear hv h32'
                  generalize zs.getD j' 0 = y' at *
                  go_wp2_with fail
                  go_ret
                  exact ⟨ret_int (by rw [HV3.out]; omega), rfl⟩
              · obtain rfl : q = 0 := by omega
                have hv : v = 0 := HQ.out
                subst hv
                go_wp2_with fail
                go_ret
                exact ⟨rfl, rfl⟩
          · have ck1 := HC.out (k + 1) h2
            rw [h1] at ck
            rw [h3] at ck1
            have d1 : (k : Int) + 1 < (n : Int) := by omega
            have d2 : ((k : Int) + 1 == (n : Int)) = false := beq_eq_false_iff_ne.2 (by omega)
            clear h1 h3
            go_wp2_with (go_at_call 63; refine (refIn_has _ _ _ (by decide)).mono ?_; rintro e w' ⟨rfl, rfl⟩)
            clear ck d ck1 d1 d2
            go_loop [5] (fun i => ∃ q : Nat, q ≤ n ∧ i = .int .i64 (q : Int) ∧ Hid (v = trimF zs q)) (fun i => (intOf i).toNat)
            case atStart => exact ⟨k, hk, rfl, HV2⟩
            case round =>
              obtain ⟨q, hq, rfl, HQ⟩ := hrel
              by_cases h0q : 0 < q
              · obtain ⟨j', rfl⟩ : ∃ j, q = j + 1 := ⟨q - 1, by omega⟩
                have c0 := HC.out j' (by omega)
                rw [show ((j' + 1 : Nat) : Int) = (j' : Int) + 1 by omega]
                have d0' : (0 : Int) < (j' : Int) + 1 := by omega
                have dj' : (j' : Int) < (n : Int) := by omega
                by_cases h32' : zs.getD j' 0 = 32
                · have hv : v = trimF zs j' := by rw [HQ.out, trimF_step zs j' h32']
                  have HV3 := Lib.hid hv
                  rw [h32'] at c0
                  clear hv h32'
                  go_wp2_with fail
                  go_round
                  case rel => exact ⟨j', by omega, by go_num, HV3⟩
                  case measure => simp [intOf]
                · have hv : v = j' + 1 := by rw [HQ.out, trimF_stay zs j' h32']
                  have hsp : (zs.getD j' 0 == 32) = false := beq_eq_false_iff_ne.2 h32'
                  have HV3 := Lib.hid hv
                  clear hv h32'
                  generalize zs.getD j' 0 = y' at *
                  go_wp2_with fail
                  go_ret
                  exact ⟨ret_int (by rw [HV3.out]; omega), rfl⟩
              · obtain rfl : q = 0 := by omega
                have hv : v = 0 := HQ.out
                subst hv
                go_wp2_with fail
                go_ret
                exact ⟨rfl, rfl⟩
          · have ck1 := HC.out (k + 1) h2
            rw [h1] at ck
            have d1 : (k : Int) + 1 < (n : Int) := by omega
            have d2 : ((k : Int) + 1 == (n : Int)) = false := beq_eq_false_iff_ne.2 (by omega)
            generalize zs.getD (k + 1) 0 = y at *
            clear h1
            go_wp2_with (go_at_call 63; refine (refIn_has _ _ _ (by decide)).mono ?_; rintro e w' ⟨rfl, rfl⟩)
            clear ck d ck1 d1 d2 h3 h4 h5
            go_loop [5] (fun i => ∃ q : Nat, q ≤ n ∧ i = .int .i64 (q : Int) ∧ Hid (v = trimF zs q)) (fun i => (intOf i).toNat)
            case atStart => exact ⟨k, hk, rfl, HV2⟩
            case round =>
              obtain ⟨q, hq, rfl, HQ⟩ := hrel
              by_cases h0q : 0 < q
              · obtain ⟨j', rfl⟩ : ∃ j, q = j + 1 := ⟨q - 1, by omega⟩
                have c0 := HC.out j' (by omega)
                rw [show ((j' + 1 : Nat) : Int) = (j' : Int) + 1 by omega]
                have d0' : (0 : Int) < (j' : Int) + 1 := by omega
                have dj' : (j' : Int) < (n : Int) := by omega
                by_cases h32' : zs.getD j' 0 = 32
                · have hv : v = trimF zs j' := by rw [HQ.out, trimF_step zs j' h32']
                  have HV3 := Lib.hid hv
                  rw [h32'] at c0
                  clear hv h32'
                  go_wp2_with fail
                  go_round
                  case rel => exact ⟨j', by omega, by go_num, HV3⟩
                  case measure => simp [intOf]
                · have hv : v = j' + 1 := by rw [HQ.out, trimF_stay zs j' h32']
                  have hsp : (zs.getD j' 0 == 32) = false := beq_eq_false_iff_ne.2 h32'
                  have HV3 := Lib.hid hv
                  clear hv h32'
                  generalize zs.getD j' 0 = y' at *
                  go_wp2_with fail
                  go_ret
                  exact ⟨ret_int (by rw [HV3.out]; omega), rfl⟩
              · obtain rfl : q = 0 := by omega
                have hv : v = 0 := HQ.out
                subst hv
                go_wp2_with fail
                go_ret
                exact ⟨rfl, rfl⟩
          · rw [h1] at ck
            obtain ⟨j, rfl⟩ : ∃ j, k = j + 1 := ⟨k - 1, by omega⟩
            rw [show j + 1 - 1 = j by omega] at h3
            have cj := HC.out j (by omega)
            rw [h3] at cj
            rw [show ((j + 1 : Nat) : Int) = (j : Int) + 1 by omega] at d ⊢
            have d0 : (0 : Int) < (j : Int) + 1 := by omega
            have dj : (j : Int) < (n : Int) := by omega
            clear h1 h3
            go_wp2_with (go_at_call 63; refine (refIn_has _ _ _ (by decide)).mono ?_; rintro e w' ⟨rfl, rfl⟩)
            clear ck d cj d0 dj
            go_loop [5] (fun i => ∃ q : Nat, q ≤ n ∧ i = .int .i64 (q : Int) ∧ Hid (v = trimF zs q)) (fun i => (intOf i).toNat)
            case atStart => exact ⟨j + 1, hk, by go_num, HV2⟩
            case round =>
              obtain ⟨q, hq, rfl, HQ⟩ := hrel
              by_cases h0q : 0 < q
              · obtain ⟨j', rfl⟩ : ∃ j, q = j + 1 := ⟨q - 1, by omega⟩
                have c0 := HC.out j' (by omega)
                rw [show ((j' + 1 : Nat) : Int) = (j' : Int) + 1 by omega]
                have d0' : (0 : Int) < (j' : Int) + 1 := by omega
                have dj' : (j' : Int) < (n : Int) := by omega
                by_cases h32' : zs.getD j' 0 = 32
                · have hv : v = trimF zs j' := by rw [HQ.out, trimF_step zs j' h32']
                  have HV3 := Lib.hid hv
                  rw [h32'] at c0
                  clear hv h32'
                  go_wp2_with fail
                  go_round
                  case rel => exact ⟨j', by omega, by go_num, HV3⟩
                  case measure => simp [intOf]
                · have hv : v = j' + 1 := by rw [HQ.out, trimF_stay zs j' h32']
                  have hsp : (zs.getD j' 0 == 32) = false := beq_eq_false_iff_ne.2 h32'
                  have HV3 := Lib.hid hv
                  clear hv h32'
                  generalize zs.getD j' 0 = y' at *
                  go_wp2_with fail
                  go_ret
                  exact ⟨ret_int (by rw [HV3.out]; omega), rfl⟩
              · obtain rfl : q = 0 := by omega
                have hv : v = 0 := HQ.out
                subst hv
                go_wp2_with fail
                go_ret
                exact ⟨rfl, rfl⟩
          · generalize zs.getD k 0 = x at *
            go_wp2_with (go_at_call 63; refine (refIn_has _ _ _ (by decide)).mono ?_; rintro e w' ⟨rfl, rfl⟩)
            clear ck d h1 h2 h3 h5
            go_loop [5] (fun i => ∃ q : Nat, q ≤ n ∧ i = .int .i64 (q : Int) ∧ Hid (v = trimF zs q)) (fun i => (intOf i).toNat)
            case atStart => exact ⟨k, hk, rfl, HV2⟩
            case round =>
              obtain ⟨q, hq, rfl, HQ⟩ := hrel
              by_cases h0q : 0 < q
              · obtain ⟨j', rfl⟩ : ∃ j, q = j + 1 := ⟨q - 1, by omega⟩
                have c0 := HC.out j' (by omega)
                rw [show ((j' + 1 : Nat) : Int) = (j' : Int) + 1 by omega]
                have d0' : (0 : Int) < (j' : Int) + 1 := by omega
                have dj' : (j' : Int) < (n : Int) := by omega
                by_cases h32' : zs.getD j' 0 = 32
                · have hv : v = trimF zs j' := by rw [HQ.out, trimF_step zs j' h32']
                  have HV3 := Lib.hid hv
                  rw [h32'] at c0
                  clear hv h32'
                  go_wp2_with fail
                  go_round
                  case rel => exact ⟨j', by omega, by go_num, HV3⟩
                  case measure => simp [intOf]
                · have hv : v = j' + 1 := by rw [HQ.out, trimF_stay zs j' h32']
                  have hsp : (zs.getD j' 0 == 32) = false := beq_eq_false_iff_ne.2 h32'
                  have HV3 := Lib.hid hv
                  clear hv h32'
                  generalize zs.getD j' 0 = y' at *
                  go_wp2_with fail
                  go_ret
                  exact ⟨ret_int (by rw [HV3.out]; omega), rfl⟩
              · obtain rfl : q = 0 := by omega
                have hv : v = 0 := HQ.out
                subst hv
                go_wp2_with fail
                go_ret
                exact ⟨rfl, rfl⟩
      · have hv := FIN.out (.inl (by omega))
        have HV2 := Lib.hid hv
        have d : decide ((k : Int) < (n : Int)) = false := decide_eq_false (by omega)
        clear hv FIN HK hS
        go_wp2_with fail
        clear d
        go_loop [5] (fun i => ∃ q : Nat, q ≤ n ∧ i = .int .i64 (q : Int) ∧ Hid (v = trimF zs q)) (fun i => (intOf i).toNat)
        case atStart => exact ⟨k, hk, rfl, HV2⟩
        case round =>
          obtain ⟨q, hq, rfl, HQ⟩ := hrel
          by_cases h0q : 0 < q
          · obtain ⟨j', rfl⟩ : ∃ j, q = j + 1 := ⟨q - 1, by omega⟩
            have c0 := HC.out j' (by omega)
            rw [show ((j' + 1 : Nat) : Int) = (j' : Int) + 1 by omega]
            have d0' : (0 : Int) < (j' : Int) + 1 := by omega
            have dj' : (j' : Int) < (n : Int) := by omega
            by_cases h32' : zs.getD j' 0 = 32
            · have hv : v = trimF zs j' := by rw [HQ.out, trimF_step zs j' h32']
              have HV3 := Lib.hid hv
              rw [h32'] at c0
              clear hv h32'
              go_wp2_with fail
              go_round
              case rel => exact ⟨j', by omega, by go_num, HV3⟩
              case measure => simp [intOf]
            · have hv : v = j' + 1 := by rw [HQ.out, trimF_stay zs j' h32']
              have hsp : (zs.getD j' 0 == 32) = false := beq_eq_false_iff_ne.2 h32'
              have HV3 := Lib.hid hv
              clear hv h32'
              generalize zs.getD j' 0 = y' at *
              go_wp2_with fail
              go_ret
              exact ⟨ret_int (by rw [HV3.out]; omega), rfl⟩
          · obtain rfl : q = 0 := by omega
            have hv : v = 0 := HQ.out
            subst hv
            go_wp2_with fail
            go_ret
            exact ⟨rfl, rfl⟩
end Go.Proofs.YtdjpdcjljpmfnaaDoor
