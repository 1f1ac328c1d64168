/- The document's own answers (scholiumref01) for fold: breaks, more, Value. -/
import Derived.Test.YtodnfdkcmhiljaaFdRows
namespace Go.Proofs.Ytodnfdkcmhiljaa
open Go.RowKit
set_option linter.unusedVariables false

/-- A text is handed back that has these bytes; the world is as it was. -/
def TxtQ (z : List Int) (w : World) (e : Ending) (w' : World) : Prop := ∃ s : ByteArray, byt s = z ∧ e = .returned (.string s) ∧ w = w'
set_option maxHeartbeats 1000000 in
theorem refBreaks_any (v : Int) (k : Nat) (hv : v = (k : Int)) (hk : k ≤ 1000000) (w : World) : Calls Try.prog 37 #[.int .i64 v] w (TxtQ (brs k) w) := by
  subst hv
  go_enter Try.func37, Try.ntmps37
  go_wp2_with fail
  go_loop [0, 3] (fun i s => ∃ (j : Nat) (u : ByteArray), j ≤ k ∧ i = .int .i64 (j : Int) ∧ s = .string u ∧ u.size ≤ k - j ∧ Hid (byt u ++ brs j = brs k)) (fun i _ => (intOf i).toNat)
  case atStart => exact ⟨k, ⟨#[]⟩, by omega, rfl, rfl, by simp [ByteArray.size], by show byt ⟨#[]⟩ ++ brs k = brs k; simp [byt]⟩
  case round =>
    obtain ⟨j, u, hj, rfl, rfl, hus, HK⟩ := hrel
    by_cases h0 : 0 < j
    · have d0 : (0 : Int) < (j : Int) := by omega
      obtain ⟨q, rfl⟩ : ∃ q, j = q + 1 := ⟨j - 1, by omega⟩
      go_wp2_with fail
      go_round
      case rel =>
        refine ⟨q, u ++ ⟨#[10]⟩, by omega, by go_num, rfl, ?_, ?_⟩
        · rw [ByteArray.size_append]; show u.size + 1 ≤ _; omega
        · show byt _ ++ brs _ = brs _
          rw [byt_append, List.append_assoc, ← HK.out]; simp [brs, byt, List.replicate_succ]
      case measure => simp [intOf]
    · have d0 : ¬ 0 < j := h0
      have d1 : decide (0 < j) = false := decide_eq_false h0
      have HJ : Hid (j = 0) := by show j = 0; omega
      go_wp2
      go_ret
      refine ⟨u, ?_, rfl, rfl⟩
      have := HK.out
      rw [HJ.out] at this
      simpa [brs] using this
set_option maxHeartbeats 1000000 in
theorem refMore_any (s : ByteArray) (hs : 0 < s.size) (w : World) (v : Bool) (hv : deep (byt s) = v) :
    Calls Try.prog 38 #[.string s] w fun e w' => e = .returned (.bool v) ∧ w = w' := by
  have h0 := byt_at s 0 hs
  have hd : (byt s).getD 0 0 = (s[0].toNat : Int) := by simp [List.getD, h0]
  unfold deep at hv
  rw [hd] at hv
  have HV := Lib.hid hv
  clear hv hd h0
  go_enter Try.func38, Try.ntmps38
  go_wp2
  · go_ret
    refine ⟨ret_bool ?_, rfl⟩
    rw [← HV.out, ‹(s[0].toNat : Int) = 9›]; rfl
  · go_ret
    exact ⟨ret_bool HV.out, rfl⟩

set_option maxHeartbeats 4000000 in
set_option maxRecDepth 100000 in
theorem refValue_false (A : Option Addr) (n c : Nat) (st ke : Bool) (dg : Nat) (l : List ByteArray) (w : World) (hl : l.length = n) (hnc : n ≤ c) (hn : n ≤ 1000) (hs : ∀ s ∈ l, s.size ≤ 1000) (hr : RdC w A (l.map Value.string)) :
    Calls Try.prog 24 #[.agg #[.bool false, .bool st, .bool ke, .int .i64 (dg : Int)], .slice A n c] w (TxtP (valueF ⟨false, st, ke, dg⟩ (l.map byt)) w) := by
  have HR := Lib.hid hr
  have HS := Lib.hid hs
  have HL := Lib.hid hl
  clear hr hs hl
  go_enter Try.func24, Try.ntmps24
  go_wp2_with fail
  go_loop [5] (fun i => ∃ j : Nat, j ≤ n ∧ i = .int .i64 (j : Int) ∧ Hid (∀ k, j ≤ k → k < n → (l.map byt).getD k [] = [])) (fun i => (intOf i).toNat)
  case atStart => exact ⟨n, by omega, rfl, fun k h1 h2 => by omega⟩
  case round =>
    obtain ⟨j, hj, rfl, HK⟩ := hrel
    have HBW : Hid (Below w.heap.size w (w.alloc (.cells #[.bool false, .bool st, .bool ke, .int .i64 (dg : Int)] 41))) := (Below.refl _ _).alloc (Nat.le_refl _) _
    by_cases h0 : 0 < j
    · obtain ⟨b, off, rfl, hc⟩ := HR.out.addr (by simp; rw [HL.out]; omega)
      obtain ⟨q, rfl⟩ : ∃ q, j = q + 1 := ⟨j - 1, by omega⟩
      obtain ⟨s, hsj⟩ : ∃ s, l[q]? = some s := ⟨_, List.getElem?_eq_getElem (by rw [HL.out]; omega)⟩
      have hcell : w.cell? ⟨b, off + q, none⟩ = some (.string s) := hc q (.string s) (by simp [hsj])
      have hbl : b < w.heap.size := World.block_lt_of_cell? _ _ hcell
      have hgd : (l.map byt).getD q [] = byt s := by simp [List.getD, hsj]
      have d1 : ((q + 1 : Nat) : Int) - 1 = (q : Int) := by omega
      have HC := Lib.hid hc
      clear hc hsj
      rcases empty_or s with ⟨rfl, hz⟩ | ⟨hs0, hz, hne⟩
      · have HG : Hid (∀ k, q ≤ k → k < n → (l.map byt).getD k [] = []) := by
          intro k h1 h2
          by_cases he : k = q
          · subst he; rw [hgd, hz]
          · exact HK.out k (by omega) h2
        clear hgd hz
        go_wp2_with fail
        go_round
        case rel => exact ⟨q, by omega, by go_num, HG⟩
        case measure => simp [intOf]
      · have hah : ahd (l.map byt) = q + 1 := ahd_eq _ _ (by rw [List.length_map, HL.out]; omega) (fun k h1 h2 => HK.out k h1 (by rw [List.length_map, HL.out] at h2; exact h2)) (fun _ => by rw [show q + 1 - 1 = q by omega, hgd]; exact hz)
        obtain ⟨rs, hrs⟩ : ∃ rs, (l.map byt).take (q + 1) = rs := ⟨_, rfl⟩
        have hrl : rs.length = q + 1 := by rw [← hrs, List.length_take, List.length_map, HL.out]; omega
        have HRW : Hid (∀ k, k < q + 1 → ∃ x : ByteArray, w.cell? ⟨b, off + k, none⟩ = some (.string x) ∧ x.size ≤ 1000 ∧ rs.drop k = byt x :: rs.drop (k + 1)) := by
          intro k hk
          have hk' : k < l.length := by rw [HL.out]; omega
          refine ⟨l[k], HC.out k _ (by simp [hk']), HS.out _ (List.getElem_mem hk'), ?_⟩
          rw [List.drop_eq_getElem_cons (by rw [hrl]; exact hk)]
          congr 1
          simp [← hrs]
        have HAH := Lib.hid (And.intro hah (And.intro hrs hrl))
        clear hah hgd hz hrs hrl
        have hq0 : (((q : Int) + 1) == 0) = false := beq_eq_false_iff_ne.2 (by omega)
        go_wp2_with fail
        clear hcell hs0 hne
        go_loop [6, 9] (fun o i => ∃ (k : Nat) (out : ByteArray), k ≤ q + 1 ∧ o = .string out ∧ i = .int .i64 (k : Int) ∧ out.size ≤ k * 2100 ∧ Hid (byt out ++ (if k = 0 then joinF (rs.drop k) else joinT (rs.drop k)) = joinF rs)) (fun _ i => q + 1 - (intOf i).toNat)
        case atStart => exact ⟨0, ⟨#[]⟩, by omega, rfl, rfl, by decide, by show byt ⟨#[]⟩ ++ _ = _; simp [byt]⟩
        case round =>
          obtain ⟨k, out, hk, rfl, rfl, hos, HX⟩ := hrel
          have hos2 : out.size ≤ 2200000 := by omega
          by_cases hkq : k < q + 1
          · obtain ⟨x, hcx, hxs, hdr⟩ := HRW.out k hkq
            have dk : (k : Int) < (q : Int) + 1 := by omega
            have HD := Lib.hid hdr
            clear hdr
            by_cases hk0 : 0 < k
            · have dk0 : (0 : Int) < (k : Int) := by omega
              go_wp2_with fail
              go_round
              case rel =>
                refine ⟨k + 1, out ++ ⟨#[10]⟩ ++ x, by omega, rfl, by go_num, ?_, ?_⟩
                · rw [ByteArray.size_append, ByteArray.size_append]; show out.size + 1 + x.size ≤ _; omega
                · show byt _ ++ _ = _
                  rw [← HX.out, HD.out, byt_append, byt_append, if_neg (by omega), if_neg (by omega)]
                  simp [joinT, byt]
              case measure => simp [intOf]; omega
            · have dk0 : ¬ 0 < k := hk0
              have dk1 : decide (0 < k) = false := decide_eq_false hk0
              have HK0 : Hid (k = 0) := by show k = 0; omega
              clear hk0
              go_wp2_with fail
              go_round
              case rel =>
                refine ⟨k + 1, out ++ x, by omega, rfl, by go_num, ?_, ?_⟩
                · rw [ByteArray.size_append]; omega
                · show byt _ ++ _ = _
                  rw [← HX.out, HD.out, byt_append, if_neg (by omega), if_pos HK0.out]
                  simp [joinF]
              case measure => simp [intOf]; omega
          · obtain rfl : k = q + 1 := by omega
            have hx := HX.out
            rw [if_neg (by omega), List.drop_eq_nil_of_le (by rw [HAH.out.2.2]; omega)] at hx
            simp only [joinT, List.append_nil] at hx
            have HX := Lib.hid hx
            clear hx
            have hval : valueF ⟨false, st, ke, dg⟩ (l.map byt) = byt out ++ brs (if st = true then 0 else if ke = true then 1 + n - (q + 1) else 1) := by
              unfold valueF
              rw [HAH.out.1, HAH.out.2.1, List.length_map, HL.out]
              have e := HX.out
              cases st <;> cases ke <;> simp [endN, brs, e] <;> omega
            have HVAL := Lib.hid hval
            clear hval
            cases st with
            | true =>
              go_wp2_with fail
              go_ret
              exact ⟨_, by rw [HVAL.out]; simp [brs], rfl, HBW.out⟩
            | false =>
              cases ke with
              | true =>
                go_wp2_with fail
                refine (refBreaks_any _ (1 + n - (q + 1)) (by first | omega | (rw [IntWalk.i64_in _ (by omega)]; omega)) (by omega) _).mono ?_
                rintro e w' ⟨d, hd, rfl, rfl⟩
                have hds : d.size ≤ 2000 := by rw [← byt_len, hd]; simp [brs]; omega
                have HD := Lib.hid hd
                clear hd
                go_wp2_with fail
                go_ret
                exact ⟨_, by rw [byt_append, HD.out, HVAL.out]; simp, rfl, HBW.out⟩
              | false =>
                go_wp2_with fail
                go_ret
                exact ⟨_, by rw [byt_append, HVAL.out]; simp [brs, byt], rfl, HBW.out⟩
    · obtain rfl : j = 0 := by omega
      have hah : ahd (l.map byt) = 0 := ahd_eq _ _ (by omega) (fun k h1 h2 => HK.out k h1 (by rw [List.length_map, HL.out] at h2; exact h2)) (fun h => by omega)
      have hval : valueF ⟨false, st, ke, dg⟩ (l.map byt) = brs (if st = true then 0 else if ke = true then n else 0) := by
        unfold valueF
        rw [hah, List.length_map, HL.out]
        cases st <;> cases ke <;> simp [endN, foldF, joinF]
      have HVAL := Lib.hid hval
      clear hah hval
      cases ke with
      | true =>
        cases st with
        | true =>
          go_wp2_with fail
          go_ret
          exact ⟨_, by rw [HVAL.out]; rfl, rfl, HBW.out⟩
        | false =>
          go_wp2_with (go_at_call 37; refine (refBreaks_any _ n rfl (by omega) _).mono ?_; rintro e w' ⟨s, hs, rfl, rfl⟩)
          go_ret
          exact ⟨s, by rw [HVAL.out, hs]; simp, rfl, HBW.out⟩
      | false =>
        go_wp2_with fail
        go_ret
        refine ⟨_, ?_, rfl, HBW.out⟩
        rw [HVAL.out]
        cases st <;> rfl

set_option maxHeartbeats 4000000 in
set_option maxRecDepth 100000 in
theorem refValue_true (A : Option Addr) (n c : Nat) (st ke : Bool) (dg : Nat) (l : List ByteArray) (w : World) (hl : l.length = n) (hnc : n ≤ c) (hn : n ≤ 1000) (hs : ∀ s ∈ l, s.size ≤ 1000) (hr : RdC w A (l.map Value.string)) :
    Calls Try.prog 24 #[.agg #[.bool true, .bool st, .bool ke, .int .i64 (dg : Int)], .slice A n c] w (TxtP (valueF ⟨true, st, ke, dg⟩ (l.map byt)) w) := by
  have HR := Lib.hid hr
  have HS := Lib.hid hs
  have HL := Lib.hid hl
  clear hr hs hl
  go_enter Try.func24, Try.ntmps24
  go_wp2_with fail
  go_loop [5] (fun i => ∃ j : Nat, j ≤ n ∧ i = .int .i64 (j : Int) ∧ Hid (∀ k, j ≤ k → k < n → (l.map byt).getD k [] = [])) (fun i => (intOf i).toNat)
  case atStart => exact ⟨n, by omega, rfl, fun k h1 h2 => by omega⟩
  case round =>
    obtain ⟨j, hj, rfl, HK⟩ := hrel
    have HBW : Hid (Below w.heap.size w (w.alloc (.cells #[.bool true, .bool st, .bool ke, .int .i64 (dg : Int)] 41))) := (Below.refl _ _).alloc (Nat.le_refl _) _
    by_cases h0 : 0 < j
    · obtain ⟨b, off, rfl, hc⟩ := HR.out.addr (by simp; rw [HL.out]; omega)
      obtain ⟨q, rfl⟩ : ∃ q, j = q + 1 := ⟨j - 1, by omega⟩
      obtain ⟨s, hsj⟩ : ∃ s, l[q]? = some s := ⟨_, List.getElem?_eq_getElem (by rw [HL.out]; omega)⟩
      have hcell : w.cell? ⟨b, off + q, none⟩ = some (.string s) := hc q (.string s) (by simp [hsj])
      have hbl : b < w.heap.size := World.block_lt_of_cell? _ _ hcell
      have hgd : (l.map byt).getD q [] = byt s := by simp [List.getD, hsj]
      have d1 : ((q + 1 : Nat) : Int) - 1 = (q : Int) := by omega
      have HC := Lib.hid hc
      clear hc hsj
      rcases empty_or s with ⟨rfl, hz⟩ | ⟨hs0, hz, hne⟩
      · have HG : Hid (∀ k, q ≤ k → k < n → (l.map byt).getD k [] = []) := by
          intro k h1 h2
          by_cases he : k = q
          · subst he; rw [hgd, hz]
          · exact HK.out k (by omega) h2
        clear hgd hz
        go_wp2_with fail
        go_round
        case rel => exact ⟨q, by omega, by go_num, HG⟩
        case measure => simp [intOf]
      · have hah : ahd (l.map byt) = q + 1 := ahd_eq _ _ (by rw [List.length_map, HL.out]; omega) (fun k h1 h2 => HK.out k h1 (by rw [List.length_map, HL.out] at h2; exact h2)) (fun _ => by rw [show q + 1 - 1 = q by omega, hgd]; exact hz)
        obtain ⟨rs, hrs⟩ : ∃ rs, (l.map byt).take (q + 1) = rs := ⟨_, rfl⟩
        have hrl : rs.length = q + 1 := by rw [← hrs, List.length_take, List.length_map, HL.out]; omega
        have HRW : Hid (∀ k, k < q + 1 → ∃ x : ByteArray, w.cell? ⟨b, off + k, none⟩ = some (.string x) ∧ x.size ≤ 1000 ∧ rs.drop k = byt x :: rs.drop (k + 1)) := by
          intro k hk
          have hk' : k < l.length := by rw [HL.out]; omega
          refine ⟨l[k], HC.out k _ (by simp [hk']), HS.out _ (List.getElem_mem hk'), ?_⟩
          rw [List.drop_eq_getElem_cons (by rw [hrl]; exact hk)]
          congr 1
          simp [← hrs]
        have HAH := Lib.hid (And.intro hah (And.intro hrs hrl))
        clear hah hgd hz hrs hrl
        have hq0 : (((q : Int) + 1) == 0) = false := beq_eq_false_iff_ne.2 (by omega)
        go_wp2_with fail
        clear hcell hs0 hne
        go_loop [6, 7, 8, 9] (fun o a e i => ∃ (p k : Nat) (last out : ByteArray), p ≤ q + 1 ∧ k ≤ p ∧ o = .string out ∧ a = .string last ∧ e = .int .i64 (k : Int) ∧ i = .int .i64 (p : Int) ∧ out.size ≤ p * 2100 ∧ Hid (byt out ++ foldF (byt last) k (rs.drop p) = foldF [] 0 rs)) (fun _ _ _ i => q + 1 - (intOf i).toNat)
        case atStart => exact ⟨0, 0, ⟨#[]⟩, ⟨#[]⟩, by omega, by omega, rfl, rfl, rfl, rfl, by decide, by show byt ⟨#[]⟩ ++ _ = _; simp [byt]⟩
        case round =>
          obtain ⟨p, k, last, out, hp, hkp, rfl, rfl, rfl, rfl, hos, HX⟩ := hrel
          have hos2 : out.size ≤ 2200000 := by omega
          by_cases hpq : p < q + 1
          · obtain ⟨x, hcx, hxs, hdr⟩ := HRW.out p hpq
            have dp : (p : Int) < (q : Int) + 1 := by omega
            have HD := Lib.hid hdr
            clear hdr
            rcases empty_or x with ⟨rfl, hx0⟩ | ⟨hx0, hxn, hxe⟩
            · have HX0 := Lib.hid hx0
              clear hx0
              go_wp2_with fail
              go_round
              case rel =>
                refine ⟨p + 1, k + 1, last, out, by omega, by omega, rfl, rfl, by go_num, by go_num, by omega, ?_⟩
                show byt _ ++ _ = _
                rw [← HX.out, HD.out, HX0.out]; simp [foldF]
              case measure => simp [intOf]; omega
            · have HXN := Lib.hid hxn
              clear hxn
              rcases empty_or last with ⟨rfl, hl0⟩ | ⟨hl0, hln, hle⟩
              · have HL0 := Lib.hid hl0
                clear hl0
                go_wp2_with (first | (go_at_call 38; refine (refMore_any _ (by assumption) _ _ (by assumption)).mono ?_; rintro e w' ⟨rfl, rfl⟩))
                refine (refBreaks_any _ (k) (by omega) (by omega) _).mono ?_
                rintro e w' ⟨d, hd, rfl, rfl⟩
                have hds : d.size ≤ k + 1 := by rw [← byt_len, hd]; simp [brs]
                have HDD := Lib.hid hd
                clear hd
                go_wp2_with fail
                go_round
                case rel =>
                  refine ⟨p + 1, 0, x, out ++ d ++ x, by omega, by omega, rfl, rfl, rfl, by go_num, ?_, ?_⟩
                  · rw [ByteArray.size_append, ByteArray.size_append];  omega
                  · show byt _ ++ _ = _
                    rw [← HX.out, HD.out, byt_append, byt_append]
                    simp only [foldF]
                    rw [if_neg HXN.out]
                    have hb : betw (byt ⟨#[]⟩) (byt x) k = byt d := by unfold betw; rw [if_pos HL0.out, HDD.out]
                    rw [hb]; simp
                case measure => simp [intOf]; omega
              · have HLN := Lib.hid hln
                clear hln
                cases hda : deep (byt last) with
                | true =>
                  go_wp2_with (first | (go_at_call 38; refine (refMore_any _ (by assumption) _ _ (by assumption)).mono ?_; rintro e w' ⟨rfl, rfl⟩))
                  refine (refBreaks_any _ (k + 1) (by omega) (by omega) _).mono ?_
                  rintro e w' ⟨d, hd, rfl, rfl⟩
                  have hds : d.size ≤ k + 1 := by rw [← byt_len, hd]; simp [brs]
                  have HDD := Lib.hid hd
                  clear hd
                  go_wp2_with fail
                  go_round
                  case rel =>
                    refine ⟨p + 1, 0, x, out ++ d ++ x, by omega, by omega, rfl, rfl, rfl, by go_num, ?_, ?_⟩
                    · rw [ByteArray.size_append, ByteArray.size_append];  omega
                    · show byt _ ++ _ = _
                      rw [← HX.out, HD.out, byt_append, byt_append]
                      simp only [foldF]
                      rw [if_neg HXN.out]
                      have hb : betw (byt last) (byt x) k = byt d := by unfold betw; rw [if_neg HLN.out, hda, HDD.out]; rfl
                      rw [hb]; simp
                  case measure => simp [intOf]; omega
                | false =>
                  cases hdb : deep (byt x) with
                  | true =>
                    go_wp2_with (first | (go_at_call 38; refine (refMore_any _ (by assumption) _ _ (by assumption)).mono ?_; rintro e w' ⟨rfl, rfl⟩))
                    refine (refBreaks_any _ (k + 1) (by omega) (by omega) _).mono ?_
                    rintro e w' ⟨d, hd, rfl, rfl⟩
                    have hds : d.size ≤ k + 1 := by rw [← byt_len, hd]; simp [brs]
                    have HDD := Lib.hid hd
                    clear hd
                    go_wp2_with fail
                    go_round
                    case rel =>
                      refine ⟨p + 1, 0, x, out ++ d ++ x, by omega, by omega, rfl, rfl, rfl, by go_num, ?_, ?_⟩
                      · rw [ByteArray.size_append, ByteArray.size_append];  omega
                      · show byt _ ++ _ = _
                        rw [← HX.out, HD.out, byt_append, byt_append]
                        simp only [foldF]
                        rw [if_neg HXN.out]
                        have hb : betw (byt last) (byt x) k = byt d := by unfold betw; rw [if_neg HLN.out, hda, hdb, HDD.out]; rfl
                        rw [hb]; simp
                    case measure => simp [intOf]; omega
                  | false =>
                    by_cases hk0 : k = 0
                    · subst hk0
                      go_wp2_with (first | (go_at_call 38; refine (refMore_any _ (by assumption) _ _ (by assumption)).mono ?_; rintro e w' ⟨rfl, rfl⟩))
                      go_round
                      case rel =>
                        refine ⟨p + 1, 0, x, out ++ ⟨#[32]⟩ ++ x, by omega, by omega, rfl, rfl, rfl, by go_num, ?_, ?_⟩
                        · rw [ByteArray.size_append, ByteArray.size_append]; show out.size + 1 + x.size ≤ _; omega
                        · show byt _ ++ _ = _
                          rw [← HX.out, HD.out, byt_append, byt_append]
                          simp only [foldF]
                          rw [if_neg HXN.out]
                          have hb : betw (byt last) (byt x) 0 = byt ⟨#[32]⟩ := by unfold betw; rw [if_neg HLN.out, hda, hdb]; rfl
                          rw [hb]; simp
                      case measure => simp [intOf]; omega
                    · have dk0 : ((k : Int) == 0) = false := beq_eq_false_iff_ne.2 (by omega)
                      go_wp2_with (first | (go_at_call 38; refine (refMore_any _ (by assumption) _ _ (by assumption)).mono ?_; rintro e w' ⟨rfl, rfl⟩))
                      refine (refBreaks_any _ (k) (by omega) (by omega) _).mono ?_
                      rintro e w' ⟨d, hd, rfl, rfl⟩
                      have hds : d.size ≤ k + 1 := by rw [← byt_len, hd]; simp [brs]
                      have HDD := Lib.hid hd
                      clear hd
                      go_wp2_with fail
                      go_round
                      case rel =>
                        refine ⟨p + 1, 0, x, out ++ d ++ x, by omega, by omega, rfl, rfl, rfl, by go_num, ?_, ?_⟩
                        · rw [ByteArray.size_append, ByteArray.size_append];  omega
                        · show byt _ ++ _ = _
                          rw [← HX.out, HD.out, byt_append, byt_append]
                          simp only [foldF]
                          rw [if_neg HXN.out]
                          have hb : betw (byt last) (byt x) k = byt d := by unfold betw; rw [if_neg HLN.out, hda, hdb, HDD.out]; simp [hk0]
                          rw [hb]; simp
                      case measure => simp [intOf]; omega
          · obtain rfl : p = q + 1 := by omega
            have hx := HX.out
            rw [List.drop_eq_nil_of_le (by rw [HAH.out.2.2]; omega)] at hx
            simp only [foldF, List.append_nil] at hx
            have HX := Lib.hid hx
            clear hx
            have hval : valueF ⟨true, st, ke, dg⟩ (l.map byt) = byt out ++ brs (if st = true then 0 else if ke = true then 1 + n - (q + 1) else 1) := by
              unfold valueF
              rw [HAH.out.1, HAH.out.2.1, List.length_map, HL.out]
              have e := HX.out
              cases st <;> cases ke <;> simp [endN, brs, e] <;> omega
            have HVAL := Lib.hid hval
            clear hval
            cases st with
            | true =>
              go_wp2_with fail
              go_ret
              exact ⟨_, by rw [HVAL.out]; simp [brs], rfl, HBW.out⟩
            | false =>
              cases ke with
              | true =>
                go_wp2_with fail
                refine (refBreaks_any _ (1 + n - (q + 1)) (by first | omega | (rw [IntWalk.i64_in _ (by omega)]; omega)) (by omega) _).mono ?_
                rintro e w' ⟨d, hd, rfl, rfl⟩
                have hds : d.size ≤ 2000 := by rw [← byt_len, hd]; simp [brs]; omega
                have HD := Lib.hid hd
                clear hd
                go_wp2_with fail
                go_ret
                exact ⟨_, by rw [byt_append, HD.out, HVAL.out]; simp, rfl, HBW.out⟩
              | false =>
                go_wp2_with fail
                go_ret
                exact ⟨_, by rw [byt_append, HVAL.out]; simp [brs, byt], rfl, HBW.out⟩
    · obtain rfl : j = 0 := by omega
      have hah : ahd (l.map byt) = 0 := ahd_eq _ _ (by omega) (fun k h1 h2 => HK.out k h1 (by rw [List.length_map, HL.out] at h2; exact h2)) (fun h => by omega)
      have hval : valueF ⟨true, st, ke, dg⟩ (l.map byt) = brs (if st = true then 0 else if ke = true then n else 0) := by
        unfold valueF
        rw [hah, List.length_map, HL.out]
        cases st <;> cases ke <;> simp [endN, foldF, joinF]
      have HVAL := Lib.hid hval
      clear hah hval
      cases ke with
      | true =>
        cases st with
        | true =>
          go_wp2_with fail
          go_ret
          exact ⟨_, by rw [HVAL.out]; rfl, rfl, HBW.out⟩
        | false =>
          go_wp2_with (go_at_call 37; refine (refBreaks_any _ n rfl (by omega) _).mono ?_; rintro e w' ⟨s, hs, rfl, rfl⟩)
          go_ret
          exact ⟨s, by rw [HVAL.out, hs]; simp, rfl, HBW.out⟩
      | false =>
        go_wp2_with fail
        go_ret
        refine ⟨_, ?_, rfl, HBW.out⟩
        rw [HVAL.out]
        cases st <;> rfl

theorem refValue_any (A : Option Addr) (n c : Nat) (h : Hd) (l : List ByteArray) (w : World) (hl : l.length = n) (hnc : n ≤ c) (hn : n ≤ 1000) (hs : ∀ s ∈ l, s.size ≤ 1000) (hr : RdC w A (l.map Value.string)) :
    Calls Try.prog 24 #[hdV h, .slice A n c] w (TxtP (valueF h (l.map byt)) w) := by
  obtain ⟨fo, st, ke, dg⟩ := h
  cases fo with
  | true => exact refValue_true A n c st ke dg l w hl hnc hn hs hr
  | false => exact refValue_false A n c st ke dg l w hl hnc hn hs hr
end Go.Proofs.Ytodnfdkcmhiljaa
