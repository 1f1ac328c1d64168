/-
  Proved: the law 'scholium/scholiumlaw02.LinesTile' returns true for every input, and every argument reads as it did before. No conditions.
-/
import Derived.Test.YtlmhcaigjcdkeaaRows
import Derived.Test.YtlmhcaigjcdkeaaFacts
import Derived.WalkKit
import Derived.ProofKit
import Derived.OpenShut
import Derived.ShutString
import Derived.ChangeOld
import Derived.Below
namespace Go.Proofs.Ytlmhcaigjcdkeaa.linesTile
open Go.ChangeShapes Go.WideShapes Go.ChangeAt Go.RowKit
open Go.ChangeMaps (open_string shut_string)
set_option linter.unusedVariables false

theorem own : ownKnob Try.prog.godebug = none := by kernel_rfl
theorem laidOut : laidOutB Try.prog = true := by kernel_rfl

/-- WHAT THE WALK IS TOLD OF A SLICE OF INTEGERS THAT CAME IN: it is nil; or it leads to a row of 'cap' cells, the numbers 'zs' (the first 'len' are its elements, the rest its spare room), each fitting its kind. -/
def IsRow (k : IntKind) (w : World) (a : Option Addr) (len cap : Nat) (zs : List Int) : Prop :=
  (a = none ∧ len = 0 ∧ cap = 0 ∧ zs = []) ∨
  ∃ x, a = some x ∧ len ≤ cap ∧ cap ≤ maxLen ∧ zs.length = cap ∧ (∀ i, i < zs.length → w.cell? (x.add i) = some (.int k (zs.getD i 0))) ∧ ∀ n ∈ zs, (Lit.int k n).wf = true

def posF (ls : List Ln) (n j : Nat) : Nat := if j < ls.length then (lnAt ls j).f else n
theorem pos_start (zs : List Int) : posF (splitF zs) zs.length 0 = bgn zs := by
  have hc := split_chn zs
  unfold posF
  generalize splitF zs = ls at *
  split
  · rename_i h
    exact (chn_at zs ls _ 0 hc h).2.2.2.2.2 rfl
  · rename_i h
    have : ls = [] := List.eq_nil_of_length_eq_zero (by omega)
    subst this
    have h1 : zs.length ≤ bgn zs := hc
    have := bgn_le zs
    omega
theorem pos_next (zs : List Int) (j : Nat) (h : j < (splitF zs).length) : posF (splitF zs) zs.length (j + 1) = (lnAt (splitF zs) j).n := by
  have hc := chn_at zs _ _ j (split_chn zs) h
  unfold posF
  split
  · rename_i h2; exact hc.2.2.2.1 h2
  · rename_i h2; exact (hc.2.2.2.2.1 (by omega)).symm
theorem line_br (zs : List Int) (j : Nat) (h : j < (splitF zs).length) :
    (zs.drop (lnAt (splitF zs) j).t).take ((lnAt (splitF zs) j).n - (lnAt (splitF zs) j).t) = [10] ∨ (zs.drop (lnAt (splitF zs) j).t).take ((lnAt (splitF zs) j).n - (lnAt (splitF zs) j).t) = [13, 10] ∨
    ((lnAt (splitF zs) j).t = zs.length ∧ (lnAt (splitF zs) j).n = zs.length ∧ j + 1 = (splitF zs).length) := by
  obtain ⟨h1, h2, h3, h4, h5, _⟩ := chn_at zs _ _ j (split_chn zs) h
  have hbd := split_bd zs j h
  have hbr := lnF_br zs (lnAt (splitF zs) j).f (by omega)
  rw [← h3] at hbr
  have hnx : (lnAt (splitF zs) j).n = zs.length → j + 1 = (splitF zs).length := by
    intro he
    by_cases hj : j + 1 < (splitF zs).length
    · have := h4 hj
      have := (chn_at zs _ _ (j + 1) (split_chn zs) hj).2.1
      omega
    · omega
  generalize lnAt (splitF zs) j = l at *
  rcases hbr with ⟨e1, e2⟩ | ⟨e1, e2, e3⟩ | ⟨e1, e2⟩
  · left
    rw [show l.n - l.t = 1 by omega, List.drop_eq_getElem_cons (by omega)]
    rw [List.getD, List.getElem?_eq_getElem (by omega)] at e2
    simp at e2
    simp [e2]
  · right; left
    rw [show l.n - l.t = 2 by omega, List.drop_eq_getElem_cons (by omega), List.drop_eq_getElem_cons (by omega)]
    rw [List.getD, List.getElem?_eq_getElem (by omega)] at e2 e3
    simp at e2 e3
    simp [e2, e3]
  · right; right
    exact ⟨e1, e2, hnx e2⟩
theorem line_no (zs : List Int) (j k : Nat) (h : j < (splitF zs).length) (h1 : (lnAt (splitF zs) j).f ≤ k) (h2 : k < (lnAt (splitF zs) j).t) : (zs.getD k 0 == 10) = false := by
  obtain ⟨_, h4, h3, _⟩ := chn_at zs _ _ j (split_chn zs) h
  rw [h3] at h2
  exact beq_eq_false_iff_ne.2 (lnF_no zs _ k h1 h2 (by omega))


set_option maxHeartbeats 8000000 in
set_option maxRecDepth 100000 in
theorem walk (a0 : Option Addr) (len0 cap0 : Nat) (z0 : List Int) (w : World) (w0 : IsRow .u8 w a0 len0 cap0 z0) :
    Calls Try.prog 6 #[.slice a0 len0 cap0] w fun e w' => e = .returned (.bool true) ∧ Below w.heap.size w w' := by
  obtain ⟨hrd, hby, hlen, hnc, hm, hA⟩ := isRow_rd w0
  clear w0
  generalize z0.take len0 = ys at *
  have HRD := Lib.hid hrd
  have HBY := Lib.hid hby
  have HLEN := Lib.hid hlen
  have HA := Lib.hid hA
  clear hrd hby hlen hA
  go_enter Try.func6, Try.ntmps6
  go_wp2_with fail
  refine (cut_any a0 len0 cap0 300 ys _ HLEN.out hnc hm (by omega) HRD.out HA.out).mono ?_
  rintro e W1 ⟨A, n, cap, rfl, h1, h2, h3, h4, h5, h6⟩
  have hby2 := HBY.out.take 300
  have hn : n ≤ 300 := by rw [← h1, List.length_take]; omega
  generalize ys.take 300 = zs at *
  clear HRD HBY HLEN HA hnc hm
  have HL := Lib.hid h1
  have HA := Lib.hid h4
  have HR := Lib.hid h5
  have HB := Lib.hid h6
  have HBY := Lib.hid hby2
  clear h1 h4 h5 h6 hby2
  go_wp2_with fail
  refine (split_any A n cap zs W1 HL.out h2 h3 HBY.out HR.out HA.out (by omega)).mono ?_
  rintro e W2 ⟨AL, m, capl, rfl, g1, g2, g3, g4, g5⟩
  have hm : m ≤ n := by rw [← g1, ← HL.out]; exact split_len zs
  have hr2 := HR.out.below g5
  have HML := Lib.hid g1
  have HRL := Lib.hid g4
  have HB2 := Lib.hid (below_step HB.out g5)
  have HSM := Lib.hid (split_small zs (by rw [HL.out]; omega))
  have HR2 := Lib.hid hr2
  clear g1 g4 g5 HR HB hr2
  have hps := pos_start zs
  rw [HL.out] at hps
  have HPS := Lib.hid hps
  clear hps
  have hmk : ∀ x, mrk zs = x → posF (splitF zs) n 0 = if x = true then 3 else 0 := by
    intro x hx; rw [HPS.out]; unfold bgn; rw [hx]
  have HMK := Lib.hid hmk
  clear hmk HPS
  go_upto_region 4 with fail
  go_cut [35] (fun s W => s = .bool (mrk zs) ∧ W = W2)
  case first =>
    by_cases hn3 : 3 ≤ n
    · obtain ⟨b, off, rfl, hc⟩ := HR2.out.addr (by rw [HL.out]; omega)
      have c0 : W2.cell? ⟨b, off, none⟩ = some (.int .u8 (zs.getD 0 0)) := hc 0 (by rw [HL.out]; omega)
      have c1 := hc 1 (by rw [HL.out]; omega)
      have c2 := hc 2 (by rw [HL.out]; omega)
      have d : (3 : Int) ≤ (n : Int) := by omega
      have d0 : (0 : Int) < (n : Int) := by omega
      have d1 : (1 : Int) < (n : Int) := by omega
      have d2 : (2 : Int) < (n : Int) := by omega
      have e : mrk zs = (zs.getD 0 0 == 239 && zs.getD 1 0 == 187 && zs.getD 2 0 == 191) := by unfold mrk; rw [HL.out, decide_eq_true hn3]; rfl
      have E := Lib.hid e
      clear e hc
      generalize zs.getD 0 0 = x at *
      generalize zs.getD 1 0 = y at *
      generalize zs.getD 2 0 = z at *
      go_wp2_with fail
      all_goals (go_meet; refine ⟨?_, rfl⟩; rw [E.out]; simp_all)
    · have d3 : decide ((3 : Int) ≤ (n : Int)) = false := decide_eq_false (by omega)
      have e : mrk zs = false := by unfold mrk; rw [HL.out, decide_eq_false hn3]; rfl
      have E := Lib.hid e
      clear e
      go_wp2_with fail
      go_meet
      exact ⟨by rw [E.out], rfl⟩
  case rest =>
    obtain ⟨rfl, rfl⟩ := hcut
    go_upto_if 35 with fail
    go_cut [4] (fun s W => s = .int .i64 (posF (splitF zs) n 0 : Int) ∧ W = wc)
    case first =>
      cases hx : mrk zs
      · have hp := HMK.out _ hx
        have HP := Lib.hid hp
        clear hp
        go_wp2_with fail
        go_meet
        exact ⟨by rw [HP.out]; rfl, rfl⟩
      · have hp := HMK.out _ hx
        have HP := Lib.hid hp
        clear hp
        go_wp2_with fail
        go_meet
        exact ⟨by rw [HP.out]; rfl, rfl⟩
    case rest =>
      obtain ⟨rfl, rfl⟩ := hcut
      clear HMK
      go_wp2
      go_loopw [4, 38] (fun s i W => ∃ j : Nat, j ≤ m ∧ i = .int .i64 (j : Int) ∧ s = .int .i64 (posF (splitF zs) n j : Int) ∧ Hid (Below wc.heap.size wc W)) (fun _ i _ => m - (intOf i).toNat)
      case atStart => exact ⟨0, by omega, rfl, rfl, Below.refl _ _⟩
      case round =>
        obtain ⟨j, hj, rfl, rfl, HW⟩ := hrel
        obtain ⟨wo, hwo⟩ : ∃ x, x = wr := ⟨_, rfl⟩
        subst hwo
        by_cases hlt : j < m
        · have hlt' : j < (splitF zs).length := by rw [HML.out]; exact hlt
          have hpj : posF (splitF zs) n j = (lnAt (splitF zs) j).f := by unfold posF; rw [if_pos hlt']
          have hpn := pos_next zs j hlt'
          have hbd := split_bd zs j hlt'
          have hbr := line_br zs j hlt'
          have hno := line_no zs j
          have hin := at_in zs j
          rw [HL.out] at hpn hbd
          rw [HML.out] at hbr hno hin
          rw [hpj]
          obtain ⟨bL, offL, rfl, hbl, hc⟩ := (HRL.out.below HW.out).addr (by omega)
          obtain ⟨hc0, hc1, hc2⟩ := hc j hlt'
          have hrb := HR2.out.below HW.out
          obtain ⟨b, off, rfl, hcb⟩ := hrb.addr (by rw [HL.out]; omega)
          have HNO := Lib.hid (fun k => hno k hlt)
          have HIN := Lib.hid (fun k => hin k hlt)
          have HPN := Lib.hid hpn
          clear hpj hpn hno hin hc hcb
          generalize lnAt (splitF zs) j = l at *
          obtain ⟨hb1, hb2, hb3, hb4⟩ := hbd
          have d1 : decide (l.t < l.f) = false := decide_eq_false (by omega)
          have d2 : decide (l.n < l.t) = false := decide_eq_false (by omega)
          have d3 : decide (n < l.n) = false := decide_eq_false (by omega)
          have d4 : ((l.n : Int) == (l.f : Int)) = false := beq_eq_false_iff_ne.2 (by omega)
          have d5 : (j : Int) < (m : Int) := by omega
          have hcv : ∀ (o : Obj) (x : Option Addr) (c : Nat) (ss : List Int), ss = (zs.drop l.t).take (l.n - l.t) → (x = some ⟨b, off + l.t, none⟩ ∨ ss = []) → (convert 23 9 (.slice x (l.n - l.t) c)).run Try.prog (wo.alloc o) = .ok (.string (strOfNums ss)) (wo.alloc o) := by
            intro o x c ss h1 h2
            refine run_string_rd _ _ _ _ _ (by rw [h1, List.length_take, List.length_drop, HL.out]; omega) ?_
            rcases h2 with rfl | rfl
            · rw [h1]; exact ((hrb.below ((Below.refl _ _).alloc (Nat.le_refl _) o)).drop l.t).take _
            · exact RdB.nil _ _
          have HCV := Lib.hid hcv
          have HRB := Lib.hid hrb
          clear hcv hrb
          have hcase : ∀ (o : Obj) (x : Option Addr) (c : Nat), (zs.drop l.t).take (l.n - l.t) = [] → (convert 23 9 (.slice x (l.n - l.t) c)).run Try.prog (wo.alloc o) = .ok (.string ⟨#[]⟩) (wo.alloc o) := fun o x c h => HCV.out o x c [] h.symm (.inr rfl)
          have HCASE := Lib.hid hcase
          clear hcase
          rcases hbr with hbr | hbr | ⟨hbr1, hbr2, hbr3⟩
          case' inl =>
            have hcv := fun o c => HCV.out o _ c [10] hbr.symm (.inl rfl)
            have es : strOfNums [10] = ⟨#[10]⟩ := rfl
            rw [es] at hcv
            have ht : l.t < l.n := by
              have := congrArg List.length hbr
              rw [List.length_take] at this; simp at this; omega
            clear hbr es HCV HCASE
            go_wp2
            clear hcv
          case' inr.inl =>
            have hcv := fun o c => HCV.out o _ c [13, 10] hbr.symm (.inl rfl)
            have es : strOfNums [13, 10] = ⟨#[13, 10]⟩ := rfl
            rw [es] at hcv
            have ht : l.t < l.n := by
              have := congrArg List.length hbr
              rw [List.length_take] at this; simp at this; omega
            clear hbr es HCV HCASE
            go_wp2
            clear hcv
          case' inr.inr =>
            rw [HL.out] at hbr1 hbr2
            have hcv := fun o x c => HCASE.out o x c (by rw [hbr1, hbr2]; simp)
            have dj : decide ((j : Int) + 1 < (m : Int)) = false := decide_eq_false (by omega)
            have dj2 : decide (j + 1 < m) = false := decide_eq_false (by omega)
            have hq1 : n ≤ l.t := by omega
            have hq2 : n ≤ l.n := by omega
            clear hbr1 hbr2 hbr3 HCV HCASE
            by_cases hcp : l.t < cap
            case' pos =>
              go_wp2
              clear hcv
            case' neg =>
              obtain rfl : cap = l.t := by omega
              go_wp2
              clear hcv
          all_goals
            go_loopw [8] (fun i V => ∃ q : Nat, l.f ≤ q ∧ q ≤ l.t ∧ i = .int .i64 (q : Int) ∧ Hid (Below (wo.alloc (.cells #[.int .i64 (l.f : Int), .int .i64 (l.t : Int), .int .i64 (l.n : Int)] 28)).heap.size (wo.alloc (.cells #[.int .i64 (l.f : Int), .int .i64 (l.t : Int), .int .i64 (l.n : Int)] 28)) V)) (fun i _ => l.t - (intOf i).toNat)
            case atStart => exact ⟨l.f, by omega, hb1, rfl, Below.refl _ _⟩
            case round =>
              obtain ⟨q, hq1, hq2, rfl, HV⟩ := hrel
              have x0 := cell_keep HV.out (b := wo.heap.size) (o := 0) (v := .int .i64 (l.f : Int)) (by simp [World.cell?_alloc_new])
              have x1 := cell_keep HV.out (b := wo.heap.size) (o := 1) (v := .int .i64 (l.t : Int)) (by simp [World.cell?_alloc_new])
              have x2 := cell_keep HV.out (b := wo.heap.size) (o := 2) (v := .int .i64 (l.n : Int)) (by simp [World.cell?_alloc_new])
              have hbW : Below wo.heap.size wo (wo.alloc (.cells #[.int .i64 (l.f : Int), .int .i64 (l.t : Int), .int .i64 (l.n : Int)] 28)) := (Below.refl _ _).alloc (Nat.le_refl _) _
              have hbV := below_step HW.out (below_step hbW HV.out)
              have HBV := Lib.hid hbV
              by_cases hqt : q < l.t
              · have hz := HNO.out q hq1 hqt
                obtain ⟨b', off', e, hcb⟩ := (HR2.out.below hbV).addr (by rw [HL.out]; omega)
                injection e with e; injection e with e1 e2; subst e1 e2
                have hcq := hcb q (by rw [HL.out]; omega)
                have hat := HIN.out q hq1 (by omega)
                have HAT := Lib.hid hat
                clear hbV hbW hcb hat
                generalize zs.getD q 0 = z at *
                have dq : (q : Int) < (n : Int) := by omega
                have dq2 : (q : Int) < (l.t : Int) := by omega
                go_wp2_with fail
                refine (at_any _ m capl (splitF zs) q wr HML.out g2 (by omega) (by omega) HSM.out (HRL.out.below HBV.out)).mono ?_
                rintro e V2 ⟨rfl, nq, rfl⟩
                rw [HAT.out]
                go_wp2
                go_roundw
                case rel => exact ⟨q + 1, by omega, by omega, by go_num, below_draws HV.out _⟩
                case measure => simp [intOf]; omega
              · obtain rfl : q = l.t := by omega
                clear hbV hbW
                go_wp2
                go_roundw
                case rel => exact ⟨j + 1, by omega, by go_num, by rw [HPN.out], HBV.out⟩
                case measure => simp [intOf]; omega
        · obtain rfl : j = m := by omega
          have hp : posF (splitF zs) n j = n := by unfold posF; rw [if_neg (by rw [HML.out]; omega)]
          have HP := Lib.hid hp
          clear hp
          have hbW := below_step HB2.out HW.out
          have HBW := Lib.hid hbW
          clear hbW
          have dp : ((posF (splitF zs) n j : Int) == (n : Int)) = true := by rw [HP.out]; simp
          go_wp2_with (go_at_call 13; refine (wakes_any _).mono ?_; rintro e w9 ⟨rfl, hb9⟩)
          go_ret
          exact ⟨rfl, HBW.out.trans (hb9.mono HBW.out.size)⟩

/-! ### THE ROW's STEP: WRITTEN OUT: LEAVE IT -/
set_option maxRecDepth 100000 in
theorem lifted (os : Os) (started : os.Started) (H : Type) (enc : TypeId × Value → H) :
    ReturnsInHanded {} Try.checked os 6 .any (Rows.linesTileSpec.pre6 enc Try.prog Try.f6 Rows.linesTileRow.domain false) (Rows.linesTileSpec.post enc Try.prog Try.f6 false true false false) := by
  refine returnsInHanded_of_change (C := Try.checked) own started (by kernel_rfl) Try.func6
    (ChangeSpec.witness6 (enc := enc) (C := Try.checked) false ⟨#[], #[.slice none 0 0], []⟩ 8 (by kernel_rfl) (by kernel_rfl) (by kernel_rfl) (by kernel_rfl)) ?_
  intro W base args ds gs before hval0 hW hcnd _
  have hval : ∀ (j : Nat) t v, Try.f6.params[j]? = some t → args[j]? = some v → Value.okWide Try.prog W .any base t v := hval0
  have hW' := hW
  obtain ⟨p, q, hA0, hV, rfl, hfz, hnd⟩ := hW
  have hA : DataW.TrodAll enc Try.prog W 0 (fun _ => true) true Try.f6.params.toList args.toList ds p := hA0
  rw [Try.params6] at hA hval
  obtain ⟨v0, vs0, d0, ds0, p0, q0, hargs, rfl, rfl, h0, r0⟩ := trodAll_cons hA
  obtain ⟨rfl, rfl, rfl⟩ := trodAll_nil r0
  obtain rfl : args = #[v0] := by cases args; simp_all
  obtain ⟨rfl, rfl⟩ := trodVars_none hV
  obtain ⟨a0, len0, cap0, rfl⟩ := okWide_slice Try.underlying23 (hval 0 23 v0 rfl rfl)
  have k0 := h0
  have lt0 : ∀ x ∈ p0, x.block < W.heap.size := by obtain ⟨m, hm⟩ := k0; exact DataW.trod_lt m _ _ _ hm
  obtain ⟨z0, w0⟩ : ∃ zs, IsRow .u8 W a0 len0 cap0 zs := by
    obtain ⟨fuel, hf⟩ := h0
    rcases open_ints Try.underlying23 Try.underlying5 (by kernel_rfl) hf with ⟨hcs, _⟩ | ⟨x, l, c, zs, hcs, _, hl, hm, hz, _, hcell, hwz⟩
    · simp [Value.cells] at hcs
      obtain ⟨rfl, rfl, rfl⟩ := hcs
      exact ⟨[], .inl ⟨rfl, rfl, rfl, rfl⟩⟩
    · simp [Value.cells] at hcs
      obtain ⟨rfl, rfl, rfl⟩ := hcs
      exact ⟨zs, .inr ⟨_, rfl, hl, hm, by simpa using hz, hcell, hwz⟩⟩
  clear hA0 hval0
  refine (walk a0 len0 cap0 z0 W w0).mono fun e W' ⟨he, bel⟩ => ?_
  subst he
  exact ⟨_, rfl, _, _, _, [], _, [], hW', trodAll_mk1 (shut_bool Try.underlying4 _), (trodAll_cons_mk (Below.trod laidOut (by kernel_rfl) (of_decide_eq_true (by kernel_rfl)) k0 bel lt0) trodAll_mk0), rfl, bel.frame _, fun h => by cases h⟩

theorem over : Rows.linesTileRow.holds Try.pinned (OpenSpec.ofChange Rows.linesTileSpec) :=
  OpenClaim.holds_of_wide 6 Try.f6 rfl rfl rfl rfl rfl rfl rfl ⟨rfl, rfl, rfl, rfl, rfl⟩ rfl rfl rfl rfl rfl (by kernel_rfl) Try.func6 (by kernel_rfl)
    (of_decide_eq_true (by kernel_rfl)) (by unfold Func.isWrapper; first | (rw [if_pos (by decide +kernel)]; kernel_rfl) | (rw [if_neg (by decide +kernel)]; exact ⟨rfl, rfl⟩))
    (fun os started H enc _ => lifted os started H enc)

/-- ████ THE STATEMENT ████ -/
theorem proved : Rows.LinesTileSaid := over
#print axioms proved
end Go.Proofs.Ytlmhcaigjcdkeaa.linesTile
