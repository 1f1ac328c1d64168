/-
  Proved: the card of the law 'scholium/scholiumlaw06.DoubleEscapes' (for every input it returns true, and every argument reads as it did before; the package variables that the row lists are tied to the program's text). No conditions.
-/
import Derived.Test.YtgiloooandiokaaDoorRows
import Derived.Test.YtgiloooandiokaaDoorCards
import Derived.Test.YtgiloooandiokaaDoorTie
import Derived.Test.YtgiloooandiokaaDoorDoor
import Derived.Test.YtgiloooandiokaaDoorDbDoor
import Derived.Test.YtgiloooandiokaaDoorDbMap
import Derived.Test.YtgiloooandiokaaDoorKeep
import Derived.WalkKit
import Derived.ProofKit
import Derived.OpenShut
import Derived.ShutString
import Derived.ChangeOld
import Derived.Below
import Derived.LaidMore
import Derived.Lay
import Derived.SevenTiedAt
namespace Go.Proofs.YtgiloooandiokaaDoor.doubleEscapes
open Go.ChangeShapes Go.WideShapes Go.ChangeAt Go.RowKit
open Go.ChangeMaps (open_string shut_string)
set_option linter.unusedVariables false

theorem own : ownKnob Tryd.prog.godebug = none := by kernel_rfl
theorem laidOut : laidOutB Tryd.prog = true := by kernel_rfl

/-- A slice of integers that came in. -/
def IsRow (k : IntKind) (w : World) (a : Option Addr) (len cap : Nat) (zs : List Int) : Prop :=
  (a = none ∧ len = 0 ∧ cap = 0 ∧ zs = []) ∨
  ∃ x, a = some x ∧ len ≤ cap ∧ cap ≤ maxLen ∧ zs.length = cap ∧ (∀ i, i < zs.length → w.cell? (x.add i) = some (.int k (zs.getD i 0))) ∧ ∀ n ∈ zs, (Lit.int k n).wf = true

theorem num_of {D : DataW Unit} {s : ByteArray} {l : List Int} (h : D = .lit (.string s.data.toList)) (hn : numOf D = some l) : byt s = l := by
  rw [h] at hn
  simp only [numOf, Option.some.injEq] at hn
  exact hn
theorem four_at (a b c d : Int) : ∀ (k : Nat) (u : Int), [a, b, c, d][k]? = some u → (#[Value.int .u8 a, .int .u8 b, .int .u8 c, .int .u8 d] : Array Value)[k]? = some (Value.int .u8 u) := by
  intro k u h
  match k with
  | 0 => simp at h; subst h; rfl
  | 1 => simp at h; subst h; rfl
  | 2 => simp at h; subst h; rfl
  | 3 => simp at h; subst h; rfl
  | k + 4 => simp at h
theorem six_cells (a b c d e f : Int) : ∀ (k : Nat) (u : Int), [a, b, c, d, e, f][k]? = some u → (#[Value.int .u8 a, .int .u8 b, .int .u8 c, .int .u8 d, .int .u8 e, .int .u8 f] : Array Value)[k]? = some (Value.int .u8 u) := by
  intro k u h
  match k with
  | 0 => simp at h; subst h; rfl
  | 1 => simp at h; subst h; rfl
  | 2 => simp at h; subst h; rfl
  | 3 => simp at h; subst h; rfl
  | 4 => simp at h; subst h; rfl
  | 5 => simp at h; subst h; rfl
  | k + 6 => simp at h
set_option maxHeartbeats 8000000 in
set_option maxRecDepth 100000 in
theorem walk (a0 : Int) (w : World) (w0 : (Lit.int .u8 a0).wf = true) (hS : Shorts w) :
    Calls Tryd.prog 3 #[.int .u8 a0] w fun e w' => e = .returned (.bool true) ∧ Below w.heap.size w w' := by
  have hb0 := bounds_u8 w0
  have h0 : 0 ≤ a0 := by omega
  have h1 : a0 < 256 := by omega
  have HS := Lib.hid hS
  clear hS hb0
  have hmm := @run_makeMap Tryd.prog
  have o0 := ownM_new w
  have g0 : Below w.heap.size w (w.alloc (.map #[] 0)) := (Below.refl _ _).alloc (Nat.le_refl _) _
  have hW0 : w.heap.size ≤ (w.alloc (.map #[] 0)).heap.size := g0.size
  obtain ⟨M1, r1, o1, q1⟩ := ownM_put o0 (by omega) 48 (by decide) ⟨#[0]⟩ (by decide)
  have g1 : Below w.heap.size w M1 := g0.grown q1 g0.size (fun b hb => by injection hb with hb; omega)
  obtain ⟨M2, r2, o2, q2⟩ := ownM_put o1 (by omega) 97 (by decide) ⟨#[7]⟩ (by decide)
  have g2 : Below w.heap.size w M2 := g1.grown q2 g1.size (fun b hb => by injection hb with hb; omega)
  obtain ⟨M3, r3, o3, q3⟩ := ownM_put o2 (by omega) 98 (by decide) ⟨#[8]⟩ (by decide)
  have g3 : Below w.heap.size w M3 := g2.grown q3 g2.size (fun b hb => by injection hb with hb; omega)
  obtain ⟨M4, r4, o4, q4⟩ := ownM_put o3 (by omega) 116 (by decide) ⟨#[9]⟩ (by decide)
  have g4 : Below w.heap.size w M4 := g3.grown q4 g3.size (fun b hb => by injection hb with hb; omega)
  obtain ⟨M5, r5, o5, q5⟩ := ownM_put o4 (by omega) 110 (by decide) ⟨#[10]⟩ (by decide)
  have g5 : Below w.heap.size w M5 := g4.grown q5 g4.size (fun b hb => by injection hb with hb; omega)
  obtain ⟨M6, r6, o6, q6⟩ := ownM_put o5 (by omega) 118 (by decide) ⟨#[11]⟩ (by decide)
  have g6 : Below w.heap.size w M6 := g5.grown q6 g5.size (fun b hb => by injection hb with hb; omega)
  obtain ⟨M7, r7, o7, q7⟩ := ownM_put o6 (by omega) 102 (by decide) ⟨#[12]⟩ (by decide)
  have g7 : Below w.heap.size w M7 := g6.grown q7 g6.size (fun b hb => by injection hb with hb; omega)
  obtain ⟨M8, r8, o8, q8⟩ := ownM_put o7 (by omega) 114 (by decide) ⟨#[13]⟩ (by decide)
  have g8 : Below w.heap.size w M8 := g7.grown q8 g7.size (fun b hb => by injection hb with hb; omega)
  obtain ⟨M9, r9, o9, q9⟩ := ownM_put o8 (by omega) 101 (by decide) ⟨#[27]⟩ (by decide)
  have g9 : Below w.heap.size w M9 := g8.grown q9 g8.size (fun b hb => by injection hb with hb; omega)
  obtain ⟨M10, r10, o10, q10⟩ := ownM_put o9 (by omega) 34 (by decide) ⟨#[34]⟩ (by decide)
  have g10 : Below w.heap.size w M10 := g9.grown q10 g9.size (fun b hb => by injection hb with hb; omega)
  obtain ⟨M11, r11, o11, q11⟩ := ownM_put o10 (by omega) 47 (by decide) ⟨#[47]⟩ (by decide)
  have g11 : Below w.heap.size w M11 := g10.grown q11 g10.size (fun b hb => by injection hb with hb; omega)
  obtain ⟨M12, r12, o12, q12⟩ := ownM_put o11 (by omega) 92 (by decide) ⟨#[92]⟩ (by decide)
  have g12 : Below w.heap.size w M12 := g11.grown q12 g11.size (fun b hb => by injection hb with hb; omega)
  obtain ⟨M13, r13, o13, q13⟩ := ownM_put o12 (by omega) 32 (by decide) ⟨#[32]⟩ (by decide)
  have g13 : Below w.heap.size w M13 := g12.grown q13 g12.size (fun b hb => by injection hb with hb; omega)
  obtain ⟨M14, r14, o14, q14⟩ := ownM_put o13 (by omega) 78 (by decide) ⟨#[194, 133]⟩ (by decide)
  have g14 : Below w.heap.size w M14 := g13.grown q14 g13.size (fun b hb => by injection hb with hb; omega)
  obtain ⟨M15, r15, o15, q15⟩ := ownM_put o14 (by omega) 95 (by decide) ⟨#[194, 160]⟩ (by decide)
  have g15 : Below w.heap.size w M15 := g14.grown q15 g14.size (fun b hb => by injection hb with hb; omega)
  obtain ⟨M16, r16, o16, q16⟩ := ownM_put o15 (by omega) 76 (by decide) ⟨#[226, 128, 168]⟩ (by decide)
  have g16 : Below w.heap.size w M16 := g15.grown q16 g15.size (fun b hb => by injection hb with hb; omega)
  obtain ⟨M17, r17, o17, q17⟩ := ownM_put o16 (by omega) 80 (by decide) ⟨#[226, 128, 169]⟩ (by decide)
  have g17 : Below w.heap.size w M17 := g16.grown q17 g16.size (fun b hb => by injection hb with hb; omega)
  have HOWN : Hid (OwnM M17 w.heap.size 17 escD) := o17
  have HB := Lib.hid g17
  clear o0 g0 o1 g1 o2 g2 o3 g3 o4 g4 o5 g5 o6 g6 o7 g7 o8 g8 o9 g9 o10 g10 o11 g11 o12 g12 o13 g13 o14 g14 o15 g15 o16 g16 o17 g17 q1 q2 q3 q4 q5 q6 q7 q8 q9 q10 q11 q12 q13 q14 q15 q16 q17 hW0
  obtain ⟨want, hlk, hwant⟩ := ownM_look HOWN.out a0 w0
  obtain ⟨f1, f2, f3, _⟩ := esc_at a0 h0 h1
  have hwb := num_of hwant f2
  rw [f1] at hlk
  have HWB := Lib.hid hwb
  have HF3 := Lib.hid f3
  clear hwant f1 f2 f3 hwb
  obtain ⟨is, his⟩ : ∃ b, decide (0 ≤ esc1 a0) = b := ⟨_, rfl⟩
  rw [his] at hlk
  have HIS := Lib.hid his
  clear his
  obtain ⟨V0, hV0⟩ : ∃ x, M17.alloc (.cells #[.int .u8 34, .int .u8 92, .int .u8 a0, .int .u8 34] 5) = x := ⟨_, rfl⟩
  have HV0 : Hid (Below M17.heap.size M17 V0) := hV0 ▸ (Below.refl _ _).alloc (Nat.le_refl _) _
  have HRV : Hid (RdB V0 (some ⟨M17.heap.size, 0, none⟩) [34, 92, a0, 34]) := by
    show RdB _ _ _
    rw [← hV0]
    exact RdB.new rfl (four_at _ _ _ _)
  obtain ⟨o, ho⟩ : ∃ o, takeD [34, 92, a0, 34] = o := ⟨_, rfl⟩
  have HO := Lib.hid ho
  clear ho
  go_enter Tryd.func3, Tryd.ntmps3
  go_wp2_with fail
  refine (take_any _ 4 4 [34, 92, a0, 34] V0 rfl (by omega) (by omega) (by omega) (by intro z hz; simp at hz; omega) HRV.out ((HS.out.below HB.out).below HV0.out) o HO.out).mono ?_
  rintro e W1 ⟨v1, hv1, rfl, hb1⟩
  have HV1 := Lib.hid hv1
  have HW1 := Lib.hid (below_step HV0.out hb1)
  clear hv1 hb1 r1 r2 r3 r4 r5 r6 r7 r8 r9 r10 r11 r12 r13 r14 r15 r16 r17 hmm hlk hV0 HRV HV0
  have HOWN1 : Hid (OwnM W1 w.heap.size 17 escD) := World.ownsMap.kept HOWN.out (grown_below HW1.out) (by simp)
  have HBW : Hid (Below w.heap.size w W1) := below_step HB.out HW1.out
  have hways : (is = true ∧ o = some (utfF (esc1 a0), 4) ∧ v1 = want) ∨ (is = false ∧ o = none) := by
    have h2 := HWB.out
    have h3 := HF3.out
    have h4 := HIS.out
    have h5 := HV1.out
    rw [HO.out] at h3
    by_cases hx : 0 ≤ esc1 a0
    · rw [if_pos hx] at h2 h3
      rw [decide_eq_true hx] at h4
      refine .inl ⟨h4.symm, h3, byt_inj ?_⟩
      rw [h5, h3, h2]; rfl
    · rw [if_neg hx] at h3
      rw [decide_eq_false hx] at h4
      exact .inr ⟨h4.symm, h3⟩
  have HHI : Hid (∀ b, (Value.slice none 0 0 : Value).ownBlock = some b → False) := fun b hb => by cases hb
  clear HWB HF3 HIS HV1 HO HOWN HB HW1 HHI
  generalize hB : w.heap.size = B at *
  have HBB := Lib.hid hB
  clear hB
  rcases hways with ⟨rfl, rfl, rfl⟩ | ⟨rfl, rfl⟩
  all_goals
    simp only [tkN, Option.isSome, show ((4 : Nat) : Int) = 4 from rfl, show ((0 : Nat) : Int) = 0 from rfl]
    go_wp2_with (at_range; refine range_map rfl (.tmp 44) rfl B 17 escD rfl HOWN1 (fun w2 HR2 => ?_))
    go_frame
    have HR2b := Lib.hid (below_step (HBB.out ▸ HBW.out) HR2.out.2)
    have HGE : Hid (w.heap.size ≤ W1.heap.size) := HBB.out ▸ HBW.out.size
    generalize hG : W1.heap.size = g at *
    have HGQ := Lib.hid hG
    clear hG
    clear HR2b
    go_loopw [2] (fun r W => r = .bool false ∧ ∃ cnt : Nat, Hid (Rng W B g 17 escD cnt ∧ Below w.heap.size w W)) (fun _ W => W.rangeLeft B g)
    case atStart => exact ⟨rfl, _, HR2.out.1, below_step (HBB.out ▸ HBW.out) (HGQ.out ▸ HR2.out.2)⟩
    case round =>
      obtain ⟨rfl, cnt, HK⟩ := hrel
      obtain ⟨W, hW⟩ : ∃ x, x = wr := ⟨_, rfl⟩
      subst hW
      have HRG := Lib.hid HK.out.1
      have HBK := Lib.hid HK.out.2
      clear HK
      go_wp2_with (at_next; refine next_map rfl (.tmp 45) rfl B g 17 escD cnt rfl HRG ?_ (fun x c W3 HF hen => ?_))
      · refine (wakes_at HBK.out HS.out).mono ?_
        rintro e W4 ⟨rfl, hb4⟩
        have HB4 := Lib.hid hb4
        clear hb4
        go_wp2_with fail
        go_ret
        exact ⟨rfl, HB4.out⟩
      · obtain ⟨hwx, hhas, hat, ⟨cnt', hrg', hlt⟩, hgr⟩ := HF.out
        have hbx := bounds_u8 hwx
        have hx0 : 0 ≤ x := by omega
        have hx1 : x < 256 := by omega
        obtain ⟨f1, f2, _, f4⟩ := esc_at x hx0 hx1
        rw [hhas] at f1
        have hpos : 0 ≤ esc1 x := of_decide_eq_true f1.symm
        rw [if_pos hpos] at f2
        have hcb := num_of hat f2
        have hcs : c.size ≤ 4 := by rw [← byt_len, hcb]; exact (utfF_len _).2
        have HF4 := Lib.hid (f4 hpos)
        have HCB := Lib.hid hcb
        have HB3 : Hid (Below w.heap.size w W3) := HBK.out.grown hgr HBK.out.size (fun b hb => by injection hb with hb; have := HGQ.out; have := HGE.out; omega)
        have HRG3 := Lib.hid hrg'
        have HLT := Lib.hid (And.intro hlt HRG.out.left)
        clear f1 f2 f4 hpos hcb hwx hhas hat hrg' hlt hgr HF hbx hen
        obtain ⟨V3, hV3⟩ : ∃ y, W3.alloc (.cells #[.int .u8 34, .int .u8 120, .int .u8 92, .int .u8 x, .int .u8 121, .int .u8 34] 5) = y := ⟨_, rfl⟩
        have HV3 : Hid (Below W3.heap.size W3 V3) := hV3 ▸ (Below.refl _ _).alloc (Nat.le_refl _) _
        have HR3 : Hid (RdB V3 (some ⟨W3.heap.size, 0, none⟩) [34, 120, 92, x, 121, 34]) := by
          show RdB _ _ _
          rw [← hV3]
          exact RdB.new rfl (six_cells _ _ _ _ _ _)
        rw [hV3]
        clear hV3
        refine (take_any _ 6 6 [34, 120, 92, x, 121, 34] V3 rfl (by omega) (by omega) (by omega) (by intro z hz; simp at hz; omega) HR3.out ((HS.out.below HB3.out).below HV3.out) _ HF4.out).mono ?_
        rintro e W4 ⟨v4, hv4, rfl, hb4⟩
        have hv4 : byt v4 = 120 :: (utfF (esc1 x) ++ [121]) := hv4
        obtain ⟨y1, hy1⟩ : ∃ y, (⟨#[120]⟩ : ByteArray) ++ c = y := ⟨_, rfl⟩
        obtain ⟨y2, hy2⟩ : ∃ y, y1 ++ (⟨#[121]⟩ : ByteArray) = y := ⟨_, rfl⟩
        have z1 : (⟨#[120]⟩ : ByteArray).size = 1 := rfl
        have sy1 : y1.size ≤ 5 := by rw [← hy1, ByteArray.size_append]; omega
        obtain rfl : v4 = y2 := byt_inj (by rw [hv4, ← hy2, byt_append, ← hy1, byt_append, HCB.out]; rfl)
        have HW4 := Lib.hid (below_step HV3.out hb4)
        have HN : Hid (Rng W4 B g 17 escD cnt' ∧ Below w.heap.size w W4) := ⟨HRG3.out.below HW4.out, below_step HB3.out HW4.out⟩
        clear hv4 hb4 z1 HR3 HV3 HF4 HCB
        simp only [tkN, Option.isSome]
        go_wp2_with fail
        go_roundw
        case rel => exact ⟨rfl, cnt', HN⟩
        case measure => rw [HN.out.1.left, HLT.out.2]; exact HLT.out.1


set_option maxRecDepth 100000 in
theorem lifted (os : Os) (started : os.Started) (H : Type) (enc : TypeId × Value → H) :
    ReturnsInHanded {} Tryd.checked os 3 .any (fun w args => (Rows.doubleEscapesSpec.pre enc Tryd.prog Tryd.f3 Rows.doubleEscapesRow.domain false w args ∧ laidMetH Tryd.prog Rows.doubleEscapesRow.laid w) ∧ sizedMet enc Tryd.prog Tryd.f3 (OpenSpec.ofChange Rows.doubleEscapesSpec) false w args)
      (Rows.doubleEscapesSpec.post enc Tryd.prog Tryd.f3 false true false false) := by
  refine returns_listed (C := Tryd.checked) (X := fun w _ => laidMetH Tryd.prog Rows.doubleEscapesRow.laid w) (fun _ _ _ hh h => h.of_heap hh) own started (by kernel_rfl) Tryd.func3
    (ChangeSpec.witness_shaped (enc := enc) (C := Tryd.checked) (os := os) (X := fun w _ => laidMetH Tryd.prog Rows.doubleEscapesRow.laid w) false (World.laidAll Tryd.prog os Rows.doubleEscapesRow.laid) #[.int .u8 0] 8 (World.laidAll_os _ _ _)
      (World.shaped_of_ZipB (by kernel_rfl) (by kernel_rfl)) (by kernel_rfl) (by kernel_rfl) (by kernel_rfl)
      (by rw [MakeChecks.laidMetH_plain _ _ _ (by kernel_rfl)]; exact laidMet_laidAll _ (by kernel_rfl) (by kernel_rfl))) ?_
  intro W base args ds gs before hval0 hW hX hsh
  have hval : ∀ (j : Nat) t v, Tryd.f3.params[j]? = some t → args[j]? = some v → Value.okWide Tryd.prog W .any base t v := hval0
  have hW' := hW
  obtain ⟨p, q, hA0, hV, rfl, hfz, hnd⟩ := hW
  have hA : DataW.TrodAll enc Tryd.prog W 0 (fun _ => true) true Tryd.f3.params.toList args.toList ds p := hA0
  rw [Tryd.params3] at hA hval
  obtain ⟨v0, vs0, d0, ds0, p0, q0, hargs, rfl, rfl, h0, r0⟩ := trodAll_cons hA
  obtain ⟨rfl, rfl, rfl⟩ := trodAll_nil r0
  obtain rfl : args = #[v0] := by cases args; simp_all
  obtain ⟨rfl, rfl⟩ := trodVars_none hV
  obtain ⟨a0, rfl, rfl, rfl, w0⟩ := open_int Tryd.underlying5 (hval 0 5 v0 rfl rfl) h0
  clear hA0 hval0
  refine (walk a0 W w0 (shorts_laid hX)).mono fun e W' ⟨he, bel⟩ => ?_
  subst he
  exact ⟨_, rfl, _, _, _, [], _, [], hW', trodAll_mk1 (shut_bool Tryd.underlying4 _), (trodAll_cons_mk (shut_int Tryd.underlying5 w0) trodAll_mk0), rfl, bel.frame _, fun h => by cases h⟩

theorem over : Rows.doubleEscapesRow.holds Tryd.pinned (OpenSpec.ofChange Rows.doubleEscapesSpec) :=
  OpenClaim.holds_of_wide 3 Tryd.f3 rfl rfl rfl rfl rfl rfl rfl ⟨rfl, rfl, rfl, rfl, rfl⟩ rfl rfl rfl rfl rfl (by kernel_rfl) Tryd.func3 (by kernel_rfl)
    (of_decide_eq_true (by kernel_rfl)) (by unfold Func.isWrapper; first | (rw [if_pos (by decide +kernel)]; kernel_rfl) | (rw [if_neg (by decide +kernel)]; exact ⟨rfl, rfl⟩))
    (fun os started H enc _ => lifted os started H enc)

theorem proved : Rows.DoubleEscapesCardSaid :=
  Claim7.holds_tied_plain_at .later [] [.data] true (true, "ab909530bb952c5f780ce0eaafa1f0b2631ff06e5414448791499cdd5477867f") false over (fun _ h => by cases h) (by kernel_rfl) (fun _ h => by cases h) doubleEscapes_row_tie rfl ⟨rfl, rfl⟩ (by kernel_rfl) rfl
    (fun f fn hf hfn => by
      obtain rfl : f = 3 := Option.some.inj ((show Tryd.prog.funcNamed Rows.doubleEscapesRow.func = some 3 by kernel_rfl).symm.trans hf) |>.symm
      obtain rfl : fn = Tryd.f3 := (Option.some.inj (Tryd.func3.symm.trans hfn)).symm
      exact ⟨by kernel_rfl, fun j t ht => by
        rw [Tryd.params3] at ht
        have hm : t ∈ [5] := by simpa using Array.mem_of_getElem? ht
        have hall : ([5].all fun u => !Tryd.prog.wantsStandIn u) = true := by kernel_rfl
        exact (show Tryd.prog.wantsStandIn t = false by simpa using List.all_eq_true.1 hall t hm)⟩)
    (by kernel_rfl)
#print axioms proved
end Go.Proofs.YtgiloooandiokaaDoor.doubleEscapes
