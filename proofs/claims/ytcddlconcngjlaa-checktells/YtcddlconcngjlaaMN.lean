/- Chapter 14: the document's own Check (scholiumref08.Check) of a tree. -/
import Derived.Test.YtcddlconcngjlaaMM
set_option linter.unusedSimpArgs false
set_option linter.unusedVariables false
namespace Go.Proofs.Ytcddlconcngjlaa
open Go.RowKit
set_option linter.unusedVariables false
set_option linter.unusedSimpArgs false
set_option maxRecDepth 100000
theorem mem_take_next {l : List Gn} {k : Nat} {y : Gn} (hy : l[k]? = some y) {P : Gn → Prop} : (∃ z ∈ l.take (k + 1), P z) ↔ (∃ z ∈ l.take k, P z) ∨ P y := by
  rw [take_snoc hy]
  constructor
  · rintro ⟨z, hz, hp⟩
    rcases List.mem_append.1 hz with hz | hz
    · exact .inl ⟨z, hz, hp⟩
    · simp at hz; subst hz; exact .inr hp
  · rintro (⟨z, hz, hp⟩ | hp)
    · exact ⟨z, List.mem_append_left _ hz, hp⟩
    · exact ⟨y, List.mem_append_right _ (List.mem_singleton.2 rfl), hp⟩
theorem mem_take_le {l : List Gn} {a b : Nat} (h : a ≤ b) {z : Gn} (hz : z ∈ l.take a) : z ∈ l.take b := by
  obtain ⟨i, hi⟩ := List.mem_iff_getElem?.1 hz
  rw [List.getElem?_take] at hi
  split at hi
  · exact List.mem_iff_getElem?.2 ⟨i, by rw [List.getElem?_take, if_pos (by omega)]; exact hi⟩
  · cases hi
set_option maxHeartbeats 16000000 in
theorem rcheck_at {W : World} {A : Option Addr} {n cap : Nat} {l : List Gn} {E : Nat → Nat} (hL : GL W A n cap l) (hE : GE l E) (hT : TxG l) (hS : Small l) (hn : n ≤ 1000000) :
    Calls Try.prog 29 #[.slice A n cap] W fun e w' => e = .returned (.tuple #[.int .i64 (ckF l).1, .int .i64 (ckF l).2]) ∧ Below W.heap.size W w' := by
  have hle := hL.le
  have hmx := hL.max
  have HL := Lib.hid hL
  have HE := Lib.hid hE
  have HT := Lib.hid hT
  have HS := Lib.hid hS
  clear hL hE hT hS
  go_enter Try.func29, Try.ntmps29
  go_wp2_with fail
  go_loopw [15] (fun u V => ∃ i : Nat, i ≤ n ∧ u = .int .i64 (i : Int) ∧ Hid (Below W.heap.size W V ∧ ckGo l (repF l) (l.drop i) i = ckF l)) (fun u _ => n - (intOf u).toNat)
  case atStart => exact ⟨0, Nat.zero_le _, rfl, Below.refl _ _, by rw [List.drop_zero]; rfl⟩
  case round =>
    obtain ⟨i, hi, rfl, HR⟩ := hrel
    obtain ⟨V, hV⟩ : ∃ z, z = wr := ⟨_, rfl⟩
    subst hV
    by_cases hlt : i < n
    · have di : (i : Int) < (n : Int) := by omega
      obtain ⟨x, hx⟩ : ∃ z, l[i]? = some z := ⟨l[i]'(by rw [HL.out.len]; exact hlt), List.getElem?_eq_getElem _⟩
      obtain ⟨g1, o1, rfl, K1, c1, a1, a2, a3, a4, a5⟩ := (HL.out.below HR.out.1).at_ i x hx
      have x0 := a5 0 _ rfl
      have x1 := a5 1 _ rfl
      have x2 := a5 2 _ rfl
      have x3 := a5 3 _ rfl
      have x4 := a5 4 _ rfl
      have x5 := a5 5 _ rfl
      have x6 := a5 6 _ rfl
      have x7 := a5 7 _ rfl
      have x8 := a5 8 _ rfl
      have x9 := a5 9 _ rfl
      rw [Nat.add_zero] at x0
      have hstep := ckGo_step (R := repF l) hx
      rw [HR.out.2] at hstep
      obtain ⟨kd, hkd⟩ : ∃ z, x.kind = z := ⟨_, rfl⟩
      obtain ⟨tg, htg⟩ : ∃ z, x.tag = z := ⟨_, rfl⟩
      obtain ⟨an, han⟩ : ∃ z, x.anchor = z := ⟨_, rfl⟩
      obtain ⟨vl, hvl⟩ : ∃ z, x.value = z := ⟨_, rfl⟩
      obtain ⟨st, hst⟩ : ∃ z, x.st = z := ⟨_, rfl⟩
      obtain ⟨kl, hkl⟩ : ∃ z, x.kids.length = z := ⟨_, rfl⟩
      rw [hkd] at x0
      rw [htg] at x2
      rw [han] at x3
      rw [hvl] at x4
      rw [hst] at x5 hstep
      rw [hkl] at x9
      obtain ⟨V1, hV1⟩ : ∃ z, V.alloc (.cells #[.int .i64 kd, .int .i64 x.style, .string tg, .string an, .string vl, .int .i64 st, .int .i64 x.en, .int .i64 x.hd, .int .i64 x.mr, .slice K1 kl c1] 41) = z := ⟨_, rfl⟩
      have hb1 : Below V.heap.size V V1 := by rw [← hV1]; exact (Below.refl _ _).alloc (Nat.le_refl _) _
      obtain ⟨gx, hgx⟩ : ∃ z, V.heap.size = z := ⟨_, rfl⟩
      have bx : Box V1 gx [.int .i64 kd, .int .i64 x.style, .string tg, .string an, .string vl, .int .i64 st, .int .i64 x.en, .int .i64 x.hd, .int .i64 x.mr, .slice K1 kl c1] := by rw [← hV1, ← hgx]; exact Box.new V _
      have y0 := bx.cell 0 _ rfl
      have HBX := Lib.hid bx
      have HB1 := Lib.hid (below_step HR.out.1 hb1)
      have HX := Lib.hid (And.intro hx (And.intro hkd (And.intro htg (And.intro han (And.intro hvl hstep)))))
      clear a1 a2 a3 a4 a5 hx hkd htg han hvl hst hkl hstep bx hb1
      go_upto_region 5 with fail
      clear hV1 hgx x0 x1 x2 x3 x4 x5 x6 x7 x8 x9
      have HK0 : Hid (((kd != 4) = true) ↔ kd ≠ 4) := bne_iff_ne
      have HI := Lib.hid (And.intro (HT.out x (List.mem_of_getElem? HX.out.1)) trivial)
      have hvs : vl.size ≤ 1000000 := by have := HI.out.1.2.2; rw [HX.out.2.2.2.2.1] at this; exact this
      have has : an.size ≤ 1000000 := by have := HI.out.1.2.1; rw [HX.out.2.2.2.1] at this; exact this
      go_wp2_with fail
      go_loopw [6, 7] (fun u v V' => ∃ (k : Nat) (b : Bool), k ≤ i ∧ u = .bool b ∧ v = .int .i64 (k : Int) ∧ Hid (Below V1.heap.size V1 V' ∧ (b = true ↔ kd ≠ 4 ∨ (vl.size ≠ 0 ∧ ∃ z ∈ l.take k, z.anchor = vl)))) (fun _ v _ => i - (intOf v).toNat)
      case atStart => exact ⟨0, kd != 4, Nat.zero_le _, rfl, rfl, Below.refl _ _, by rw [HK0.out, List.take_zero]; simp⟩
      case round =>
        obtain ⟨k, b, hk, rfl, rfl, HK⟩ := hrel
        obtain ⟨U, hU⟩ : ∃ z, z = wr := ⟨_, rfl⟩
        subst hU
        by_cases hlk : k < i
        · have dk : (k : Int) < (i : Int) := by omega
          obtain ⟨y, hy⟩ : ∃ z, l[k]? = some z := ⟨l[k]'(by rw [HL.out.len]; omega), List.getElem?_eq_getElem _⟩
          obtain ⟨gA, oA, eA, K2, c2, a1, a2, a3, a4, a5⟩ := (HL.out.below (below_step HB1.out HK.out.1)).at_ k y hy
          injection eA with eA
          injection eA with e1 e2
          subst e1 e2
          have z3 := a5 3 _ rfl
          have y4 := (HBX.out.below HK.out.1).cell 4 _ rfl
          have hnx := mem_take_next (P := fun z => z.anchor = vl) hy
          have hys := (HT.out y (List.mem_of_getElem? hy)).2.1
          obtain ⟨ak, hak⟩ : ∃ z, y.anchor = z := ⟨_, rfl⟩
          rw [hak] at z3 hnx hys
          have HN := Lib.hid hnx
          have dkn : (k : Int) < (n : Int) := by omega
          clear a1 a2 a3 a4 a5 hy hak hnx
          cases b with
          | true =>
            go_wp2_with fail
            go_quiet (fail)
            go_wp2_with fail
            go_roundw
            case rel => exact ⟨k + 1, true, by omega, by trivial, by go_num, below_drewN HK.out.1 _, by rw [HN.out]; exact ⟨fun _ => (HK.out.2.1 (by trivial)).imp id (fun h => ⟨h.1, .inl h.2⟩), fun _ => by trivial⟩⟩
            case measure => simp [intOf]; omega
          | false =>
            have hno : ¬ (kd ≠ 4 ∨ (vl.size ≠ 0 ∧ ∃ z ∈ l.take k, z.anchor = vl)) := fun h => by cases HK.out.2.2 h
            have HNO := Lib.hid hno
            clear hno
            by_cases h0 : ak = ⟨#[]⟩
            · subst h0
              go_wp2_with fail
              go_quiet (fail)
              go_wp2_with fail
              go_roundw
              case rel => exact ⟨k + 1, false, by omega, by trivial, by go_num, below_drewN HK.out.1 _, ⟨fun h => (by cases h), fun h => absurd (h.imp id (fun h => ⟨h.1, (HN.out.1 h.2).elim id (fun e => absurd (by rw [← e]; rfl) h.1)⟩)) HNO.out⟩⟩
              case measure => simp [intOf]; omega
            · have e0 := gne_isEmpty h0
              by_cases hs2 : ak = vl
              · subst hs2
                go_wp2_with fail
                go_quiet (fail)
                go_wp2_with fail
                go_roundw
                case rel => exact ⟨k + 1, true, by omega, by trivial, by go_num, below_drewN HK.out.1 _, ⟨fun _ => .inr ⟨gne_size h0, HN.out.2 (.inr (by trivial))⟩, fun _ => by trivial⟩⟩
                case measure => simp [intOf]; omega
              · have e1 := gstr_ne hs2
                go_wp2_with fail
                go_quiet (fail)
                go_wp2_with fail
                go_roundw
                case rel => exact ⟨k + 1, false, by omega, by trivial, by go_num, below_drewN HK.out.1 _, ⟨fun h => (by cases h), fun h => absurd (h.imp id (fun h => ⟨h.1, (HN.out.1 h.2).elim id (fun e => absurd e hs2)⟩)) HNO.out⟩⟩
                case measure => simp [intOf]; omega
        · obtain rfl : k = i := by omega
          have HU : Hid (Below W.heap.size W U) := below_step HB1.out HK.out.1
          have HF1 : Hid (b = true ↔ ¬ (kd = 4 ∧ ahdF (ancF l) vl (k : Int) = false)) := by
            show _ ↔ _
            rw [HK.out.2, ← ahd_take]
            cases ahdF (ancF l) vl (k : Int) <;> simp
          have HBU := Lib.hid (HBX.out.below HK.out.1)
          clear HBX HK HK0 y0
          have y5 := HBU.out.cell 5 _ rfl
          cases b with
          | false =>
            go_wp2_with fail
            go_quiet (fail)
            go_wp2_with fail
            go_ret2
            refine ⟨?_, below_drewN HU.out _⟩
            have hb : badF l (repF l) k x = 4 := by
              unfold badF
              rw [HX.out.2.1, HX.out.2.2.2.2.1]
              refine if_pos (Classical.byContradiction fun h => ?_)
              cases HF1.out.2 h
            rw [HX.out.2.2.2.2.2, hb]
            rfl
          | true =>
            clear y5
            go_wp2_with fail
            have hb1' : ¬ (kd = 4 ∧ ahdF (ancF l) vl (k : Int) = false) := HF1.out.1 (by trivial)
            have HF2 := Lib.hid hb1'
            clear hb1' HF1
            go_loopw [8] (fun u V' => ∃ j : Nat, j ≤ k ∧ u = .int .i64 (j : Int) ∧ Hid (Below U.heap.size U V' ∧ ¬ (an.size ≠ 0 ∧ ∃ z ∈ l.take j, z.anchor = an))) (fun u _ => k - (intOf u).toNat)
            case atStart => exact ⟨0, Nat.zero_le _, rfl, Below.refl _ _, fun h => by rw [List.take_zero] at h; obtain ⟨_, z, hz, _⟩ := h; cases hz⟩
            case round =>
              obtain ⟨j, hj, rfl, HJ⟩ := hrel
              obtain ⟨T, hTT⟩ : ∃ z, z = wr := ⟨_, rfl⟩
              subst hTT
              by_cases hlj : j < k
              · have dj : (j : Int) < (k : Int) := by omega
                obtain ⟨y, hy⟩ : ∃ z, l[j]? = some z := ⟨l[j]'(by rw [HL.out.len]; omega), List.getElem?_eq_getElem _⟩
                obtain ⟨gA, oA, eA, K2, c2, a1, a2, a3, a4, a5⟩ := (HL.out.below (below_step HU.out HJ.out.1)).at_ j y hy
                injection eA with eA
                injection eA with e1 e2
                subst e1 e2
                have z3 := a5 3 _ rfl
                have y3 := (HBU.out.below HJ.out.1).cell 3 _ rfl
                have hnx := mem_take_next (P := fun z => z.anchor = an) hy
                have hys := (HT.out y (List.mem_of_getElem? hy)).2.1
                obtain ⟨ak, hak⟩ : ∃ z, y.anchor = z := ⟨_, rfl⟩
                rw [hak] at z3 hnx hys
                have HN := Lib.hid hnx
                have djn : (j : Int) < (n : Int) := by omega
                clear a1 a2 a3 a4 a5 hy hak hnx
                by_cases h0 : an = ⟨#[]⟩
                · subst h0
                  go_wp2_with fail
                  go_quiet (fail)
                  go_wp2_with fail
                  go_roundw
                  case rel => exact ⟨j + 1, by omega, by go_num, below_drewN HJ.out.1 _, fun h => h.1 rfl⟩
                  case measure => simp [intOf]; omega
                · have e0 := gne_isEmpty h0
                  by_cases hs2 : ak = an
                  · subst hs2
                    have y5 := (HBU.out.below HJ.out.1).cell 5 _ rfl
                    have HUJ := Lib.hid (below_step HU.out HJ.out.1)
                    have hah : ahdF (ancF l) ak (k : Int) = true := by
                      obtain ⟨z, hz, e⟩ := HN.out.2 (.inr (by trivial))
                      exact ahd_take.2 ⟨gne_size h0, z, mem_take_le (by omega) hz, e⟩
                    have HAH := Lib.hid hah
                    clear hah
                    go_wp2_with fail
                    go_quiet (fail)
                    go_wp2_with fail
                    go_quiet (fail)
                    go_wp2_with fail
                    go_ret2
                    refine ⟨?_, below_drewN (below_drewN HUJ.out _) _⟩
                    have hb : badF l (repF l) k x = 5 := by
                      unfold badF
                      rw [HX.out.2.1, HX.out.2.2.2.2.1, HX.out.2.2.2.1, if_neg HF2.out]
                      exact if_pos (.inl HAH.out)
                    rw [HX.out.2.2.2.2.2, hb]
                    rfl
                  · have e1 := gstr_ne hs2
                    go_wp2_with fail
                    go_quiet (fail)
                    go_wp2_with fail
                    go_roundw
                    case rel => exact ⟨j + 1, by omega, by go_num, below_drewN HJ.out.1 _, fun h => (HN.out.1 h.2).elim (fun h2 => HJ.out.2 ⟨h.1, h2⟩) (fun e => hs2 e)⟩
                    case measure => simp [intOf]; omega
              · obtain rfl : j = k := by omega
                have HUT : Hid (Below W.heap.size W T) := below_step HU.out HJ.out.1
                have hah : ¬ ahdF (ancF l) an (j : Int) = true := fun h => HJ.out.2 (ahd_take.1 h)
                have HAH := Lib.hid hah
                have HBT := Lib.hid (HBU.out.below HJ.out.1)
                clear hah HJ HBU
                have hbad : ∀ b : Bool, (repF l).getD j false = b → badF l (repF l) j x = if b then 5 else 0 := by
                  intro b hb
                  unfold badF
                  rw [HX.out.2.1, HX.out.2.2.2.2.1, HX.out.2.2.2.1, if_neg HF2.out, hb]
                  cases b
                  · exact if_neg (fun h => h.elim HAH.out (fun h => by cases h))
                  · exact if_pos (.inr rfl)
                have HBAD := Lib.hid hbad
                clear hbad HF2 HAH
                have HGT := Lib.hid (HL.out.below HUT.out)
                have HPA := Lib.hid (rparent_at HGT.out HS.out hn (j : Int))
                go_wp2_with fail
                refine HPA.out.mono ?_
                clear HPA
                rintro e T' ⟨p, q, rfl, hP, rfl⟩
                rcases hP.out with ⟨rfl, rfl, hno⟩ | ⟨p, q, y, rfl, rfl, hy, hky⟩
                · have HZ : Hid (ckGo l (repF l) (l.drop (j + 1)) (j + 1) = ckF l) := by
                    show _ = _
                    have h1 := HX.out.2.2.2.2.2
                    rw [HBAD.out false (rep_none HE.out (by rw [HL.out.len]; exact hlt) hno), if_pos (by rfl)] at h1
                    exact h1.symm
                  clear hno hP
                  go_wp2_with fail
                  go_roundw
                  case rel => exact ⟨j + 1, by omega, by go_num, HUT.out, HZ.out⟩
                  case measure => simp [intOf]; omega
                · have hpl := (List.getElem?_eq_some_iff.1 hy).1
                  rw [HL.out.len] at hpl
                  obtain ⟨gA, oA, eA, K2, c2, a1, a2, a3, a4, a5⟩ := HGT.out.at_ p y hy
                  injection eA with eA
                  injection eA with e1 e2
                  subst e1 e2
                  have w0 := a5 0 _ rfl
                  have w9 := a5 9 _ rfl
                  rw [Nat.add_zero] at w0
                  have hrp := rep_parent HE.out HX.out.1 hy hky
                  have hql := (List.getElem?_eq_some_iff.1 hky).1
                  have hkl3 := (HS.out y (List.mem_of_getElem? hy)).1
                  obtain ⟨yk, hyk⟩ : ∃ z, y.kind = z := ⟨_, rfl⟩
                  obtain ⟨ykl, hykl⟩ : ∃ z, y.kids.length = z := ⟨_, rfl⟩
                  rw [hyk] at w0 hrp
                  rw [hykl] at w9 a1 hql hkl3
                  have HY := Lib.hid (And.intro hy (And.intro hky (And.intro hrp (And.intro a4 hykl))))
                  have dp0 : decide ((p : Int) < 0) = false := decide_eq_false (by omega)
                  have dp1 : ¬ (p : Int) < 0 := by omega
                  have dpn : (p : Int) < (n : Int) := by omega
                  have go_on : (repF l).getD j false = false → ckGo l (repF l) (l.drop (j + 1)) (j + 1) = ckF l := fun h => by
                    have h1 := HX.out.2.2.2.2.2
                    rw [HBAD.out false h, if_pos (by rfl)] at h1
                    exact h1.symm
                  have HGO := Lib.hid go_on
                  clear hy hky hrp a4 a5 hyk hykl hP go_on a1 a2 a3
                  by_cases h3 : yk = 3
                  · subst h3
                    rcases Nat.mod_two_eq_zero_or_one q with hq | hq
                    · obtain ⟨a, rfl⟩ : ∃ a, q = 2 * a := ⟨q / 2, by omega⟩
                      have hm2 : ((2 * a : Nat) : Int).tmod 2 = 0 := by rw [Int.tmod_eq_emod_of_nonneg (by omega)]; omega
                      go_wp2_with fail
                      clear hm2
                      go_loopw [11] (fun u V' => ∃ b : Nat, b ≤ a ∧ u = .int .i64 ((2 * b : Nat) : Int) ∧ Hid (Below T.heap.size T V' ∧ ¬ ErK l y.kids b x)) (fun u _ => 2 * a - (intOf u).toNat)
                      case atStart => exact ⟨0, Nat.zero_le _, rfl, Below.refl _ _, erK_zero⟩
                      case round =>
                        obtain ⟨b, hb, rfl, HM⟩ := hrel
                        obtain ⟨M, hM⟩ : ∃ z, z = wr := ⟨_, rfl⟩
                        subst hM
                        by_cases hlb : b < a
                        · have db : ((2 * b : Nat) : Int) < ((2 * a : Nat) : Int) := by omega
                          have dbk : ((2 * b : Nat) : Int) < (ykl : Int) := by omega
                          obtain ⟨kq, hkq⟩ : ∃ z, y.kids[2 * b]? = some z := ⟨y.kids[2 * b]'(by rw [HY.out.2.2.2.2]; omega), List.getElem?_eq_getElem _⟩
                          obtain ⟨c0, _, cl, _⟩ := HE.out.kid HY.out.1 hkq
                          rw [HL.out.len] at cl
                          obtain ⟨m, rfl⟩ := Int.eq_ofNat_of_zero_le c0
                          rw [Int.toNat_natCast] at cl
                          obtain ⟨kg, ko, rfl, hkc⟩ := (HY.out.2.2.2.1.below HM.out.1).addr (by rw [ki_len, HY.out.2.2.2.2]; omega)
                          have yq := hkc (2 * b) _ (ki_at hkq)
                          have w9' := cell_keep HM.out.1 w9
                          have dm : (m : Int) < (n : Int) := by omega
                          obtain ⟨v, hv⟩ : ∃ z, l[m]? = some z := ⟨l[m]'(by rw [HL.out.len]; omega), List.getElem?_eq_getElem _⟩
                          obtain ⟨gA, oA, eA, K3, c3, a1, a2, a3, a4, a5⟩ := (HGT.out.below HM.out.1).at_ m v hv
                          injection eA with eA
                          injection eA with e1 e2
                          subst e1 e2
                          have v0 := a5 0 _ rfl
                          have v1 := a5 1 _ rfl
                          have v2 := a5 2 _ rfl
                          have v3 := a5 3 _ rfl
                          have v4 := a5 4 _ rfl
                          have v5 := a5 5 _ rfl
                          have v6 := a5 6 _ rfl
                          have v7 := a5 7 _ rfl
                          have v8 := a5 8 _ rfl
                          have v9 := a5 9 _ rfl
                          rw [Nat.add_zero] at v0
                          have HV := Lib.hid (And.intro hkq hv)
                          obtain ⟨vt, hvt⟩ : ∃ z, v.tag = z := ⟨_, rfl⟩
                          obtain ⟨vv, hvv⟩ : ∃ z, v.value = z := ⟨_, rfl⟩
                          rw [hvt] at v2
                          rw [hvv] at v4
                          have HVT := Lib.hid (And.intro hvt hvv)
                          obtain ⟨M1, hM1⟩ : ∃ z, M.alloc (.cells #[.int .i64 v.kind, .int .i64 v.style, .string vt, .string v.anchor, .string vv, .int .i64 v.st, .int .i64 v.en, .int .i64 v.hd, .int .i64 v.mr, .slice K3 v.kids.length c3] 41) = z := ⟨_, rfl⟩
                          have hbm : Below M.heap.size M M1 := by rw [← hM1]; exact (Below.refl _ _).alloc (Nat.le_refl _) _
                          have bm : Box M1 M.heap.size [.int .i64 v.kind, .int .i64 v.style, .string vt, .string v.anchor, .string vv, .int .i64 v.st, .int .i64 v.en, .int .i64 v.hd, .int .i64 v.mr, .slice K3 v.kids.length c3] := by rw [← hM1]; exact Box.new M _
                          have m2 := bm.cell 2 _ rfl
                          have m4 := bm.cell 4 _ rfl
                          have HTM := Lib.hid (below_step HM.out.1 hbm)
                          have bt := HBT.out.below HTM.out
                          have t2 := bt.cell 2 _ rfl
                          have t4 := bt.cell 4 _ rfl
                          have t5 := bt.cell 5 _ rfl
                          have w9'' := cell_keep hbm w9'
                          have HUM : Hid (Below W.heap.size W M1) := below_step HUT.out HTM.out
                          clear hkc hkq hv a1 a2 a3 a4 a5 hvt hvv c0 w9 bm bt hbm
                          go_upto_region 23 with fail
                          clear hM1 v0 v1 v2 v3 v4 v5 v6 v7 v8 v9 yq w9'
                          have erk : ErK l y.kids (b + 1) x ↔ ErK l y.kids b x ∨ (vt = tg ∧ vv = vl) := by
                            constructor
                            · rintro ⟨b', k', z, h1, h2, h3, h4, h5⟩
                              by_cases e : b' < b
                              · exact .inl ⟨b', k', z, e, h2, h3, h4, h5⟩
                              · obtain rfl : b' = b := by omega
                                rw [HV.out.1] at h2; injection h2 with h2; subst h2
                                unfold kyN at h3
                                rw [if_pos (by omega), Int.toNat_natCast, HV.out.2] at h3
                                injection h3 with h3; subst h3
                                exact .inr ⟨by rw [← HVT.out.1, h4, HX.out.2.2.1], by rw [← HVT.out.2, h5, HX.out.2.2.2.2.1]⟩
                            · rintro (⟨b', k', z, h1, h2⟩ | ⟨h1, h2⟩)
                              · exact ⟨b', k', z, by omega, h2⟩
                              · exact ⟨b, (m : Int), v, by omega, HV.out.1, by unfold kyN; rw [if_pos (by omega), Int.toNat_natCast]; exact HV.out.2, by rw [HVT.out.1, HX.out.2.2.1]; exact h1, by rw [HVT.out.2, HX.out.2.2.2.2.1]; exact h2⟩
                          have HERK := Lib.hid erk
                          clear erk
                          by_cases ht : vt = tg
                          · by_cases hv : vv = vl
                            · subst ht hv
                              have hrep : (repF l).getD j false = true := HY.out.2.2.1.2 ⟨by trivial, a, by trivial, by obtain ⟨b', k', z, h1, h2⟩ := HERK.out.2 (.inr ⟨by trivial, by trivial⟩); exact ⟨b', k', z, by omega, h2⟩⟩
                              have HBB := Lib.hid (HBAD.out true hrep)
                              clear hrep
                              go_wp2_with fail
                              go_quiet (fail)
                              go_wp2_with fail
                              go_ret2
                              refine ⟨?_, below_drewN HUM.out _⟩
                              rw [HX.out.2.2.2.2.2, HBB.out]
                              rfl
                            · have e1 := gstr_ne hv
                              subst ht
                              go_wp2_with fail
                              go_roundw
                              case rel => exact ⟨b + 1, by omega, by go_num, HTM.out, fun h => (HERK.out.1 h).elim HM.out.2 (fun h => hv h.2)⟩
                              case measure => simp [intOf]; omega
                          · have e1 := gstr_ne ht
                            go_wp2_with fail
                            go_roundw
                            case rel => exact ⟨b + 1, by omega, by go_num, HTM.out, fun h => (HERK.out.1 h).elim HM.out.2 (fun h => ht h.1)⟩
                            case measure => simp [intOf]; omega
                        · obtain rfl : b = a := by omega
                          have HUM : Hid (Below W.heap.size W M) := below_step HUT.out HM.out.1
                          have HZ : Hid (ckGo l (repF l) (l.drop (j + 1)) (j + 1) = ckF l) := HGO.out (by
                            cases hb : (repF l).getD j false with
                            | false => rfl
                            | true =>
                              obtain ⟨_, a', ha, he⟩ := HY.out.2.2.1.1 hb
                              obtain rfl : b = a' := by omega
                              exact absurd he HM.out.2)
                          clear w9 w0
                          go_wp2_with fail
                          go_roundw
                          case rel => exact ⟨j + 1, by omega, by go_num, HUM.out, HZ.out⟩
                          case measure => simp [intOf]; omega
                    · have hm2 : (q : Int).tmod 2 = 1 := by rw [Int.tmod_eq_emod_of_nonneg (by omega)]; omega
                      have HZ : Hid (ckGo l (repF l) (l.drop (j + 1)) (j + 1) = ckF l) := HGO.out (by
                        cases hb : (repF l).getD j false with
                        | false => rfl
                        | true => obtain ⟨_, a, ha, _⟩ := HY.out.2.2.1.1 hb; omega)
                      go_wp2_with fail
                      go_roundw
                      case rel => exact ⟨j + 1, by omega, by go_num, HUT.out, HZ.out⟩
                      case measure => simp [intOf]; omega
                  · have h3' : (yk != 3) = true := bne_iff_ne.2 h3
                    have HZ : Hid (ckGo l (repF l) (l.drop (j + 1)) (j + 1) = ckF l) := HGO.out (by
                      cases hb : (repF l).getD j false with
                      | false => rfl
                      | true => exact absurd (HY.out.2.2.1.1 hb).1 h3)
                    go_wp2_with fail
                    go_roundw
                    case rel => exact ⟨j + 1, by omega, by go_num, HUT.out, HZ.out⟩
                    case measure => simp [intOf]; omega
    · obtain rfl : i = n := by omega
      have hfin := HR.out.2
      rw [List.drop_eq_nil_of_le (by rw [HL.out.len]; exact Nat.le_refl _)] at hfin
      go_wp2_with fail
      go_ret2
      refine ⟨?_, HR.out.1⟩
      rw [← hfin]
      rfl
end Go.Proofs.Ytcddlconcngjlaa
