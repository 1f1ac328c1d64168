/- The document's own answers (scholiumref01) for lines: marked, Split, Break, At, Indent, Blank. -/
import Derived.Test.YtodnfdkcmhiljaaLnFacts
import Derived.Laws.StructEq
namespace Go.Proofs.Ytodnfdkcmhiljaa
open Go.RowKit
set_option linter.unusedVariables false

set_option maxHeartbeats 1000000 in
theorem refMarked_any (A : Option Addr) (n cap : Nat) (zs : List Int) (w : World) (hl : zs.length = n) (hr : RdB w A zs) :
    Calls Try.prog 39 #[.slice A n cap] w fun e w' => e = .returned (.bool (mrk zs)) ∧ w = w' := by
  by_cases h1 : 3 ≤ n
  · obtain ⟨b, off, rfl, hc⟩ := hr.addr (by omega)
    have c0 : w.cell? ⟨b, off, none⟩ = some (.int .u8 (zs.getD 0 0)) := hc 0 (by omega)
    have c1 := hc 1 (by omega)
    have c2 := hc 2 (by omega)
    have d : (3 : Int) ≤ (n : Int) := by omega
    have d0 : (0 : Int) < (n : Int) := by omega
    have d1 : (1 : Int) < (n : Int) := by omega
    have d2 : (2 : Int) < (n : Int) := by omega
    have e : mrk zs = (zs.getD 0 0 == 239 && zs.getD 1 0 == 187 && zs.getD 2 0 == 191) := by unfold mrk; rw [decide_eq_true (by omega)]; rfl
    rw [e]
    generalize zs.getD 0 0 = x at *
    generalize zs.getD 1 0 = y at *
    generalize zs.getD 2 0 = z at *
    clear e hc hr hl
    go_enter Try.func39, Try.ntmps39
    go_wp2
    all_goals (go_ret; refine ⟨ret_bool (bool_iff ?_), rfl⟩; simp_all)
  · have d : decide ((3 : Int) ≤ (n : Int)) = false := decide_eq_false (by omega)
    have e : mrk zs = false := by unfold mrk; rw [decide_eq_false (by omega)]; rfl
    rw [e]
    clear e hr hl
    go_enter Try.func39, Try.ntmps39
    go_wp2
    go_ret
    exact ⟨rfl, rfl⟩

theorem refline_info : (Try.prog.info? 73).map (fun i => (i.zero, i.size, i.bytes)) = some (some (.agg #[.int .i64 0, .int .i64 0, .int .i64 0]), 3, 24) := by kernel_rfl

set_option maxHeartbeats 4000000 in
theorem refSplit_any (A : Option Addr) (n c : Nat) (zs : List Int) (w : World) (hl : zs.length = n) (hnc : n ≤ c) (hm : c ≤ 9223372036854775807) (hb : Byte zs) (hr : RdB w A zs) (hA : A = none → c = 0) (hn : n ≤ 100000) :
    Calls Try.prog 25 #[.slice A n c] w (NewL w (splitF zs)) := by
  have HR := Lib.hid hr
  have HB := Lib.hid hb
  have HL := Lib.hid hl
  have HA := Lib.hid hA
  have hg := bgn_le zs
  rw [hl] at hg
  clear hr hb hl hA
  have hmk : ∀ x, mrk zs = x → bgn zs = if x = true then 3 else 0 := by intro x hx; unfold bgn; rw [hx]
  have HMK := Lib.hid hmk
  clear hmk
  go_enter Try.func25, Try.ntmps25
  go_wp2_with fail
  refine (refMarked_any A n c zs w HL.out HR.out).mono ?_
  rintro e w' ⟨rfl, rfl⟩
  go_upto_if 8 with fail
  go_cut [4] (fun s W => s = .int .i64 (bgn zs : Int) ∧ W = w)
  case first =>
    cases hx : mrk zs
    all_goals
      have HP := Lib.hid (HMK.out _ hx)
      go_wp2_with fail
      go_meet
      exact ⟨by rw [HP.out]; rfl, rfl⟩
  case rest =>
    obtain ⟨rfl, rfl⟩ := hcut
    clear HMK
    go_wp2
    go_loopw [3, 4] (fun v f W => ∃ (a : Nat) (done : List Ln) (A' : Option Addr) (m cap : Nat), a ≤ n ∧ f = .int .i64 (a : Int) ∧ v = .slice A' m cap ∧ m ≤ cap ∧ cap ≤ 9223372036854775807 ∧ Hid (done.length = m ∧ done.length ≤ a ∧ splitF zs = done ++ rest zs a ∧ W.ownsRow wc.heap.size 73 3 (.slice A' m cap) m (lnsC done) ∧ Below wc.heap.size wc W)) (fun _ f _ => n - (intOf f).toNat)
    case atStart => exact ⟨bgn zs, [], none, 0, 0, hg, rfl, rfl, by omega, by omega, rfl, by simp, rfl, own_nil _ _ _ _, Below.refl _ _⟩
    case round =>
      obtain ⟨a, done, A', m, cap, ha, rfl, rfl, hmc, hcm, HK⟩ := hrel
      obtain ⟨wo, hwo⟩ : ∃ x, x = wr := ⟨_, rfl⟩
      subst hwo
      obtain ⟨hdl, hda, hsp, hown, hbel⟩ := HK.out
      clear HK
      subst hdl
      by_cases hlt : a < n
      · have hrst := rest_cons zs a (by rw [HL.out]; exact hlt)
        have hbd := lnF_bd zs a (by rw [HL.out]; exact ha)
        have hnl := nl_le zs a (by rw [HL.out]; exact ha)
        have hno := nl_no zs a
        have hat := nl_at zs a
        have hln : (a + nl zs a < zs.length → lnF zs a = ⟨a, if 0 < nl zs a ∧ zs.getD (a + nl zs a - 1) 0 = 13 then a + nl zs a - 1 else a + nl zs a, a + nl zs a + 1⟩) ∧ (¬ a + nl zs a < zs.length → lnF zs a = ⟨a, zs.length, zs.length⟩) := by
          unfold lnF; exact ⟨fun h => if_pos h, fun h => if_neg h⟩
        rw [HL.out] at hbd hnl hat hln
        have hln1 : (lnF zs a).n ≤ n := hbd.2.2.1
        have hln2 : a < (lnF zs a).n := hbd.2.2.2 hlt
        obtain ⟨b, off, rfl, hcb⟩ := (HR.out.below hbel).addr (by rw [HL.out]; omega)
        have hcb0 := hcb 0 (by rw [HL.out]; omega)
        have hbl : b < wo.heap.size := World.block_lt_of_cell? _ _ hcb0
        have HC := Lib.hid hcb
        generalize hl' : lnF zs a = l at *
        have HRST := Lib.hid (And.intro hrst hsp)
        have HOWN := Lib.hid hown
        have HBEL := Lib.hid hbel
        have HLN := Lib.hid hln
        have HNO := Lib.hid hno
        have HAT := Lib.hid hat
        clear hrst hsp hown hbel hbd hl' hln hno hat hcb hcb0
        go_wp2
        go_loop [5] (fun s => ∃ q : Nat, a ≤ q ∧ q ≤ a + nl zs a ∧ s = .int .i64 (q : Int)) (fun s => n - (intOf s).toNat)
        case atStart => exact ⟨a, by omega, by omega, rfl⟩
        case round =>
          obtain ⟨q, hq1, hq2, rfl⟩ := hrel
          by_cases hqj : q < a + nl zs a
          · have hz := HNO.out q hq1 hqj (by rw [HL.out]; omega)
            have hcq := HC.out q (by rw [HL.out]; omega)
            have hz' : (zs.getD q 0 != 10) = true := by simp only [bne, beq_eq_false_iff_ne.2 hz]; rfl
            have dq : (q : Int) < (n : Int) := by omega
            clear hz
            generalize zs.getD q 0 = z at *
            go_wp2
            go_round
            case rel => exact ⟨q + 1, by omega, by omega, by go_num⟩
            case measure => simp [intOf]; omega
          · obtain ⟨j, hj⟩ : ∃ j, nl zs a = j := ⟨_, rfl⟩
            rw [hj] at HLN HNO HAT
            obtain rfl : j = q - a := by omega
            have e1 : a + (q - a) = q := by omega
            rw [e1] at HLN HNO HAT
            have hqn : q ≤ n := by omega
            clear hj e1 hqj hq2 hnl
            by_cases hqlt : q < n
            · have h10 := HAT.out hqlt
              have hcq := HC.out q (by rw [HL.out]; omega)
              rw [h10] at hcq
              have dq : (q : Int) < (n : Int) := by omega
              by_cases haq : a < q
              · have hcp := HC.out (q - 1) (by rw [HL.out]; omega)
                have dg : (a : Int) < (q : Int) := by omega
                have hlt2 : (q : Int) - 1 < (n : Int) := by omega
                have hge : 1 ≤ (q : Int) := by omega
                have hge0 : 0 ≤ (q : Int) - 1 := by omega
                have htn : ((q : Int) - 1).toNat = q - 1 := by omega
                by_cases h13 : zs.getD (q - 1) 0 = 13
                · rw [h13] at hcp
                  have hl2 := HLN.out.1 hqlt
                  rw [if_pos ⟨by omega, h13⟩] at hl2
                  obtain ⟨A2, cap2, W2, hrun, hown2, hc1, hc2, hbel2, hsz2, hat2⟩ := append_ln Try.underlying49 refline_info wc wo _ done l HOWN.out HBEL.out (by omega) (.cells #[.int .i64 (a : Int), .int .i64 ((q : Int) - 1), .int .i64 ((q : Int) + 1)] 73) (a : Int) ((q : Int) - 1) ((q : Int) + 1) (by rw [hl2]) (by rw [hl2]; simp only []; omega) (by rw [hl2]; simp only []; omega)
                  have hcn : W2.cell? ⟨wo.heap.size, 2, none⟩ = some (.int .i64 ((q : Int) + 1)) := by simp [World.cell?, hat2]
                  have hnq : l.n = q + 1 := by rw [hl2]
                  have HX := Lib.hid (And.intro hown2 (And.intro hbel2 hnq))
                  have HRUN := Lib.hid hrun
                  clear h13 h10 hl2 hrun hown2 hbel2 hat2 hnq
                  go_wp2_with (at_builtin; refine wpList_append_known rfl _ (.tmp 54) 49 rfl _ _ _ _ rfl rfl HRUN.out ?_)
                  go_roundw
                  case rel =>
                    refine ⟨q + 1, done ++ [l], A2, done.length + 1, cap2, by omega, by go_num, by simp, hc1, hc2, by simp, ?_, ?_, HX.out.1, HX.out.2.1⟩
                    · simp; omega
                    · rw [HRST.out.2, HRST.out.1, HX.out.2.2]; simp
                  case measure => simp [intOf]; omega
                · have h13' : (zs.getD (q - 1) 0 == 13) = false := beq_eq_false_iff_ne.2 h13
                  have hl2 := HLN.out.1 hqlt
                  rw [if_neg (by omega)] at hl2
                  clear h13
                  generalize zs.getD (q - 1) 0 = z at *
                  obtain ⟨A2, cap2, W2, hrun, hown2, hc1, hc2, hbel2, hsz2, hat2⟩ := append_ln Try.underlying49 refline_info wc wo _ done l HOWN.out HBEL.out (by omega) (.cells #[.int .i64 (a : Int), .int .i64 (q : Int), .int .i64 ((q : Int) + 1)] 73) (a : Int) (q : Int) ((q : Int) + 1) (by rw [hl2]) (by rw [hl2]) (by rw [hl2]; simp only []; omega)
                  have hcn : W2.cell? ⟨wo.heap.size, 2, none⟩ = some (.int .i64 ((q : Int) + 1)) := by simp [World.cell?, hat2]
                  have hnq : l.n = q + 1 := by rw [hl2]
                  have HX := Lib.hid (And.intro hown2 (And.intro hbel2 hnq))
                  have HRUN := Lib.hid hrun
                  clear h10 hl2 hrun hown2 hbel2 hat2 hnq
                  go_wp2_with (at_builtin; refine wpList_append_known rfl _ (.tmp 54) 49 rfl _ _ _ _ rfl rfl HRUN.out ?_)
                  go_roundw
                  case rel =>
                    refine ⟨q + 1, done ++ [l], A2, done.length + 1, cap2, by omega, by go_num, by simp, hc1, hc2, by simp, ?_, ?_, HX.out.1, HX.out.2.1⟩
                    · simp; omega
                    · rw [HRST.out.2, HRST.out.1, HX.out.2.2]; simp
                  case measure => simp [intOf]; omega
              · obtain rfl : a = q := by omega
                have dg : decide ((a : Int) < (a : Int)) = false := decide_eq_false (by omega)
                have hl2 := HLN.out.1 hqlt
                rw [if_neg (by omega)] at hl2
                obtain ⟨A2, cap2, W2, hrun, hown2, hc1, hc2, hbel2, hsz2, hat2⟩ := append_ln Try.underlying49 refline_info wc wo _ done l HOWN.out HBEL.out (by omega) (.cells #[.int .i64 (a : Int), .int .i64 (a : Int), .int .i64 ((a : Int) + 1)] 73) (a : Int) (a : Int) ((a : Int) + 1) (by rw [hl2]) (by rw [hl2]) (by rw [hl2]; simp only []; omega)
                have hcn : W2.cell? ⟨wo.heap.size, 2, none⟩ = some (.int .i64 ((a : Int) + 1)) := by simp [World.cell?, hat2]
                have hnq : l.n = a + 1 := by rw [hl2]
                have HX := Lib.hid (And.intro hown2 (And.intro hbel2 hnq))
                have HRUN := Lib.hid hrun
                clear h10 hl2 hrun hown2 hbel2 hat2 hnq
                go_wp2_with (at_builtin; refine wpList_append_known rfl _ (.tmp 54) 49 rfl _ _ _ _ rfl rfl HRUN.out ?_)
                go_roundw
                case rel =>
                  refine ⟨a + 1, done ++ [l], A2, done.length + 1, cap2, by omega, by go_num, by simp, hc1, hc2, by simp, ?_, ?_, HX.out.1, HX.out.2.1⟩
                  · simp; omega
                  · rw [HRST.out.2, HRST.out.1, HX.out.2.2]; simp
                case measure => simp [intOf]; omega
            · obtain rfl : q = n := by omega
              have hl2 := HLN.out.2 hqlt
              have dq : decide ((q : Int) < (q : Int)) = false := decide_eq_false (by omega)
              obtain ⟨A2, cap2, W2, hrun, hown2, hc1, hc2, hbel2, hsz2, hat2⟩ := append_ln Try.underlying49 refline_info wc wo _ done l HOWN.out HBEL.out (by omega) (.cells #[.int .i64 (a : Int), .int .i64 (q : Int), .int .i64 (q : Int)] 73) (a : Int) (q : Int) (q : Int) (by rw [hl2]) (by rw [hl2]) (by rw [hl2])
              have hcn : W2.cell? ⟨wo.heap.size, 2, none⟩ = some (.int .i64 (q : Int)) := by simp [World.cell?, hat2]
              have hnq : l.n = q := by rw [hl2]
              have HX := Lib.hid (And.intro hown2 (And.intro hbel2 hnq))
              have HRUN := Lib.hid hrun
              clear  hl2 hrun hown2 hbel2 hat2 hnq
              go_wp2_with (at_builtin; refine wpList_append_known rfl _ (.tmp 54) 49 rfl _ _ _ _ rfl rfl HRUN.out ?_)
              go_roundw
              case rel =>
                refine ⟨q, done ++ [l], A2, done.length + 1, cap2, by omega, by go_num, by simp, hc1, hc2, by simp, ?_, ?_, HX.out.1, HX.out.2.1⟩
                · simp; omega
                · rw [HRST.out.2, HRST.out.1, HX.out.2.2]; simp
              case measure => simp [intOf]; omega
      · have he : rest zs a = [] := rest_nil zs a (by rw [HL.out]; omega)
        rw [he, List.append_nil] at hsp
        have HX := Lib.hid (And.intro hsp (And.intro hown hbel))
        clear hsp hown hbel he
        go_wp2
        go_ret
        refine ⟨A', _, cap, rfl, ?_, hmc, hcm, ?_, HX.out.2.2⟩
        · rw [HX.out.1]
        · rw [HX.out.1]; exact RdC.own HX.out.2.1

set_option maxHeartbeats 1000000 in
theorem refIndent_any (b off : Nat) (n c : Nat) (zs : List Int) (l : Ln) (w : World) (hl : zs.length = n) (hnc : n ≤ c) (hn : n ≤ 1000000) (hr : RdB w (some ⟨b, off, none⟩) zs) (hft : l.f ≤ l.t) (htn : l.t ≤ n) (j : Nat) (hj : indF zs l = j) :
    Calls Try.prog 41 #[.slice (some ⟨b, off, none⟩) n c, lnV l] w fun e w' => e = .returned (.int .i64 (j : Int)) ∧ Below w.heap.size w w' := by
  have HR := Lib.hid hr
  have HL := Lib.hid hl
  have HJ := Lib.hid hj
  clear hr hl hj
  unfold lnV
  go_enter Try.func41, Try.ntmps41
  go_wp2
  go_loop [5] (fun i => ∃ k : Nat, l.f + k ≤ l.t ∧ i = .int .i64 (k : Int) ∧ Hid (∀ j, j < k → zs.getD (l.f + j) 0 = 32)) (fun i => l.t - l.f - (intOf i).toNat)
  case atStart => exact ⟨0, by omega, by simp, fun j h => by omega⟩
  case round =>
    obtain ⟨k, hk, rfl, HK⟩ := hrel
    by_cases hlt : l.f + k < l.t
    · obtain ⟨b', off', e, hc⟩ := HR.out.addr (by rw [HL.out]; omega)
      injection e with e; injection e with e1 e2; subst e1 e2
      have hc1 := hc (l.f + k) (by rw [HL.out]; omega)
      have hbl : b < w.heap.size := World.block_lt_of_cell? _ _ hc1
      have d1 : (l.f : Int) + (k : Int) < (l.t : Int) := by omega
      have d2 : (l.f : Int) + (k : Int) < (n : Int) := by omega
      clear hc
      by_cases h32 : zs.getD (l.f + k) 0 = 32
      · have hk2 : ∀ j, j < k + 1 → zs.getD (l.f + j) 0 = 32 := by
          intro j hj
          by_cases he : j = k
          · subst he; exact h32
          · exact HK.out j (by omega)
        have HK2 := Lib.hid hk2
        rw [h32] at hc1
        clear hk2 h32
        go_wp2
        go_round
        case rel => exact ⟨k + 1, by omega, by go_num, HK2⟩
        case measure => simp [intOf]; omega
      · have hst := indF_stop zs l k (by omega) (by rw [HL.out]; omega) HK.out (.inr h32)
        have h32' : (zs.getD (l.f + k) 0 == 32) = false := beq_eq_false_iff_ne.2 h32
        rw [HJ.out] at hst
        subst hst
        clear h32
        generalize zs.getD (l.f + j) 0 = z at *
        go_wp2
        go_ret
        exact ⟨rfl, (Below.refl _ _).alloc (Nat.le_refl _) _⟩
    · have hst := indF_stop zs l k (by omega) (by rw [HL.out]; omega) HK.out (.inl (by omega))
      rw [HJ.out] at hst
      subst hst
      have d1 : decide ((l.f : Int) + (j : Int) < (l.t : Int)) = false := decide_eq_false (by omega)
      go_wp2
      go_ret
      exact ⟨rfl, (Below.refl _ _).alloc (Nat.le_refl _) _⟩

set_option maxHeartbeats 1000000 in
theorem refBlank_any (b off : Nat) (n c : Nat) (zs : List Int) (l : Ln) (w : World) (hl : zs.length = n) (hnc : n ≤ c) (hn : n ≤ 1000000) (hr : RdB w (some ⟨b, off, none⟩) zs) (hft : l.f ≤ l.t) (htn : l.t ≤ n) (v : Bool) (hv : blkF zs l = v) :
    Calls Try.prog 40 #[.slice (some ⟨b, off, none⟩) n c, lnV l] w fun e w' => e = .returned (.bool v) ∧ Below w.heap.size w w' := by
  obtain ⟨j, hj⟩ : ∃ j, indF zs l = j := ⟨_, rfl⟩
  have hjb := indF_le zs l hft
  rw [hj] at hjb
  have hv' : ((j : Int) == (l.t : Int) - (l.f : Int)) = v := by
    rw [← hv]; unfold blkF; rw [hj]; apply bool_iff; simp; omega
  have HR := Lib.hid hr
  have HL := Lib.hid hl
  have HJ := Lib.hid hj
  have HV := Lib.hid hv'
  clear hr hl hj hv hv'
  unfold lnV
  go_enter Try.func40, Try.ntmps40
  go_wp2
  have hb0 : Below w.heap.size w (w.alloc (.cells #[.int .i64 (l.f : Int), .int .i64 (l.t : Int), .int .i64 (l.n : Int)] 73)) := (Below.refl _ _).alloc (Nat.le_refl _) _
  have hs1 : w.heap.size < (w.alloc (.cells #[.int .i64 (l.f : Int), .int .i64 (l.t : Int), .int .i64 (l.n : Int)] 73)).heap.size := by simp
  have hc0 : (w.alloc (.cells #[.int .i64 (l.f : Int), .int .i64 (l.t : Int), .int .i64 (l.n : Int)] 73)).cell? ⟨w.heap.size, 0, none⟩ = some (.int .i64 (l.f : Int)) := by simp [World.cell?_alloc_new]
  have hc1 : (w.alloc (.cells #[.int .i64 (l.f : Int), .int .i64 (l.t : Int), .int .i64 (l.n : Int)] 73)).cell? ⟨w.heap.size, 1, none⟩ = some (.int .i64 (l.t : Int)) := by simp [World.cell?_alloc_new]
  have hc2 : (w.alloc (.cells #[.int .i64 (l.f : Int), .int .i64 (l.t : Int), .int .i64 (l.n : Int)] 73)).cell? ⟨w.heap.size, 2, none⟩ = some (.int .i64 (l.n : Int)) := by simp [World.cell?_alloc_new]
  generalize w.alloc (.cells #[.int .i64 (l.f : Int), .int .i64 (l.t : Int), .int .i64 (l.n : Int)] 73) = W at *
  have HB0 := Lib.hid hb0
  clear hb0
  go_region_held3 (fun w' => w'.cell? ⟨w.heap.size, 0, none⟩ = some (.int .i64 (l.f : Int)) ∧ w'.cell? ⟨w.heap.size, 1, none⟩ = some (.int .i64 (l.t : Int)) ∧ w'.cell? ⟨w.heap.size, 2, none⟩ = some (.int .i64 (l.n : Int)) ∧ w.heap.size < w'.heap.size ∧ Below w.heap.size w w')
    (first | exact ⟨hc0, hc1, hc2, hs1, HB0.out⟩ | exact ⟨hc0, hc1, hc2, hs1, HB0.out.drew⟩ | exact ⟨k0, k1, k2, k3, HB2.out⟩)
    (first | (go_at_call 41; refine (refIndent_any b off n c zs l W.drew HL.out hnc hn (HR.out.below HB0.out.drew) hft htn j HJ.out).mono ?_; rintro e w2 ⟨rfl, hb2⟩; have k0 := (hb2.cell (p := ⟨w.heap.size, 0, none⟩) hs1).trans hc0; have k1 := (hb2.cell (p := ⟨w.heap.size, 1, none⟩) hs1).trans hc1; have k2 := (hb2.cell (p := ⟨w.heap.size, 2, none⟩) hs1).trans hc2; have k3 := Nat.lt_of_lt_of_le hs1 hb2.size; have HB2 := Lib.hid (HB0.out.drew.trans (hb2.mono HB0.out.size)); clear hb2))
  go_wp2
  go_ret
  exact ⟨ret_bool (by rw [IntWalk.i64_in _ (by omega)]; exact HV.out), HB2.out⟩

theorem brk_split (zs : List Int) : ((splitF zs).length = 0 → brkF zs = [10]) ∧ (0 < (splitF zs).length → ((lnAt (splitF zs) 0).t = (lnAt (splitF zs) 0).n → brkF zs = [10]) ∧ ((lnAt (splitF zs) 0).t < (lnAt (splitF zs) 0).n → brkF zs = (zs.drop (lnAt (splitF zs) 0).t).take ((lnAt (splitF zs) 0).n - (lnAt (splitF zs) 0).t))) := by
  have hc := split_chn zs
  have hbr := brkF_cases zs
  constructor
  · intro h
    have h0 : splitF zs = [] := List.eq_nil_of_length_eq_zero h
    rw [h0] at hc
    have h1 : zs.length ≤ bgn zs := hc
    have h2 := bgn_le zs
    have hbd := lnF_bd zs (bgn zs) h2
    exact hbr.1 (by omega)
  · intro h
    have hat := chn_at zs _ _ 0 hc h
    have e : lnAt (splitF zs) 0 = lnF zs (bgn zs) := by rw [hat.2.2.1, hat.2.2.2.2.2 rfl]
    rw [e]
    exact hbr

theorem refline_neq (x y z : Int) (w : World) : (binOp .neq 73 (.agg #[.int .i64 x, .int .i64 y, .int .i64 z]) (.agg #[.int .i64 x, .int .i64 y, .int .i64 z])).run Try.prog w = .ok (.bool false) w := by
  have h1 : Try.prog.underlying 73 = some (.struct (Try.prog.fieldsOf 73)) := by kernel_rfl
  have h2 : Try.prog.stoodInHeld 73 = false := by kernel_rfl
  rw [run_neq_struct, run_equalIn_agg _ _ _ _ _ h1 h2]
  simp [go_sem, Try.underlying73]
theorem refline_guard : Try.prog.eqGuardType Try.prog.depth 73 = false := by kernel_rfl
end Go.Proofs.Ytodnfdkcmhiljaa
