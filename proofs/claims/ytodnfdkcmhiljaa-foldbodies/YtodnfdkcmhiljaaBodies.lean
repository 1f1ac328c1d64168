/-
  Proved: the law 'scholium/scholiumlaw07.FoldBodies' returns true for every input, and every argument reads as it did before. No conditions.
-/
import Derived.Test.YtodnfdkcmhiljaaRows
import Derived.Test.YtodnfdkcmhiljaaFdOpen
import Derived.Test.YtodnfdkcmhiljaaKeep
import Derived.Test.YtodnfdkcmhiljaaLnFacts
import Derived.WalkKit
import Derived.ProofKit
import Derived.OpenShut
import Derived.ShutString
import Derived.ChangeOld
import Derived.Below
namespace Go.Proofs.Ytodnfdkcmhiljaa.foldBodies
open Go.ChangeShapes Go.WideShapes Go.ChangeAt Go.RowKit
open Go.ChangeMaps (open_string shut_string)
set_option linter.unusedVariables false

theorem own : ownKnob Try.prog.godebug = none := by kernel_rfl
theorem laidOut : laidOutB Try.prog = true := by kernel_rfl

/-- A slice of integers that came in. -/
def IsRow (k : IntKind) (w : World) (a : Option Addr) (len cap : Nat) (zs : List Int) : Prop :=
  (a = none ∧ len = 0 ∧ cap = 0 ∧ zs = []) ∨
  ∃ x, a = some x ∧ len ≤ cap ∧ cap ≤ maxLen ∧ zs.length = cap ∧ (∀ i, i < zs.length → w.cell? (x.add i) = some (.int k (zs.getD i 0))) ∧ ∀ n ∈ zs, (Lit.int k n).wf = true

theorem within_gen (v : Int) (n : Nat) (u : Int) (hu : u = (n : Int)) (w : World) (h1 : 1 ≤ n) (h2 : n ≤ 2000000000) (hv : -9223372036854775808 ≤ v ∧ v ≤ 9223372036854775807) :
    Calls Try.prog 12 #[.int .i64 v, .int .i64 u] w (WithinP n w) := by subst hu; exact within_nat v n w h1 h2 hv
/-- Two rows of texts with the same bytes are the same texts. -/
theorem rows_inj : ∀ (l m : List ByteArray), l.map byt = m.map byt → l = m := by
  intro l
  induction l with
  | nil => intro m h; cases m with
    | nil => rfl
    | cons a t => simp at h
  | cons x t ih =>
    intro m h
    cases m with
    | nil => simp at h
    | cons a r =>
      simp only [List.map_cons, List.cons.injEq] at h
      rw [byt_inj h.1, ih r h.2]

theorem rdC_set {W : World} {b off g k : Nat} {cs : List Value} {u : Value} (h : RdC W (some ⟨b, off, none⟩) cs) (hne : b ≠ g) : RdC (W.setCell ⟨g, k, none⟩ u) (some ⟨b, off, none⟩) cs := by
  intro j v hj
  obtain ⟨b', off', e, hc⟩ := h j v hj
  injection e with e
  injection e with e1 e2
  subst e1 e2
  refine ⟨b, off, rfl, ?_⟩
  have e : (W.setCell ⟨g, k, none⟩ u).heap[b]? = W.heap[b]? := Below.heap_setCell _ _ _ _ hne
  simp only [World.cell?, e] at hc ⊢
  exact hc
theorem rdL_set {W : World} {A : Option Addr} {g : Nat} {ls : List Ln} {x y z : Bool} {d : Int} {T : TypeId} {u : Value} (hg : W.heap[g]? = some (.cells #[.bool x, .bool y, .bool z, .int .i64 d] T)) (h : RdL W A ls) : RdL (W.setCell ⟨g, 3, none⟩ u) A ls := by
  by_cases h0 : 0 < ls.length
  · obtain ⟨b, off, rfl, _, hc⟩ := h.addr h0
    obtain ⟨c0, c1, _⟩ := hc 0 h0
    refine rdC_set h ?_
    rintro rfl
    simp only [World.cell?, hg] at c0 c1
    match off, c0, c1 with
    | 0, c0, _ => simp at c0
    | 1, c0, _ => simp at c0
    | 2, c0, _ => simp at c0
    | 3, _, c1 => simp at c1
    | o + 4, c0, _ => simp at c0
  · have : ls = [] := List.eq_nil_of_length_eq_zero (by omega)
    subst this
    exact RdC.nil _ _
theorem rdB_set {W : World} {b off g k : Nat} {zs : List Int} {u : Value} (h : RdB W (some ⟨b, off, none⟩) zs) (hne : b ≠ g) : RdB (W.setCell ⟨g, k, none⟩ u) (some ⟨b, off, none⟩) zs := (rdC_set h.toC hne).toB

set_option maxHeartbeats 8000000 in
set_option maxRecDepth 100000 in
theorem walk (a0 : ByteArray) (a1 : Int) (a2 : Int) (a3 b3 c3 : Bool) (d3 : Int) (w : World) (w0 : a0.size ≤ maxLen) (w1 : (Lit.int .i64 a1).wf = true) (w2 : (Lit.int .i64 a2).wf = true) (w3 : (Lit.int .i64 d3).wf = true) :
    Calls Try.prog 8 #[.string a0, .int .i64 a1, .int .i64 a2, .agg #[.bool a3, .bool b3, .bool c3, .int .i64 d3]] w fun e w' => e = .returned (.bool true) ∧ Below w.heap.size w w' := by
  have hb1 := bounds_i64 w1
  have hb2 := bounds_i64 w2
  have hb3 := bounds_i64 w3
  clear w1 w2 w3
  obtain ⟨W0, hW0⟩ : ∃ x, w.alloc (.cells #[.bool a3, .bool b3, .bool c3, .int .i64 d3] 27) = x := ⟨_, rfl⟩
  have HB0 : Hid (Below w.heap.size w W0) := by rw [← hW0]; exact (Below.refl _ _).alloc (Nat.le_refl _) _
  have hg : W0.heap[w.heap.size]? = some (.cells #[.bool a3, .bool b3, .bool c3, .int .i64 d3] 27) := by rw [← hW0]; exact heap_alloc_new _ _
  have hs0 : w.heap.size < W0.heap.size := by rw [← hW0]; simp
  have HG := Lib.hid hg
  clear hg
  go_enter Try.func8, Try.ntmps8
  go_wp2_with fail
  refine (text_any a0 200 _ (by omega) w0).mono ?_
  rintro e w' ⟨t, _, ht, rfl, rfl⟩
  clear w0 hW0
  obtain ⟨cap, W1, hrun, hle, hmax, hrd, hbel⟩ := bytes_of t (by omega) W0
  have HL : Hid ((byt t).length = t.size) := byt_len t
  have HY := Lib.hid (byt_byte t)
  have HB1 := Lib.hid hbel
  have HR1 := Lib.hid hrd
  clear hrd hbel
  go_wp2_with fail
  clear hrun
  refine (split_any _ t.size cap (byt t) W1 HL.out hle hmax HY.out HR1.out (fun h => by cases h) (by omega)).mono ?_
  rintro e W2 ⟨B1, m, d1, rfl, hm1, hmd1, hd1, hrl1, hb2'⟩
  have HB2 := Lib.hid hb2'
  have HL1 := Lib.hid (And.intro hm1 hrl1)
  clear hb2' hrl1 hm1
  go_wp2_with fail
  refine (refSplit_any _ t.size cap (byt t) W2 HL.out hle hmax HY.out (HR1.out.below HB2.out) (fun h => by cases h) (by omega)).mono ?_
  rintro e W3 ⟨B2, m2, d2, rfl, hm2, hmd2, hd2, hrl2, hb3'⟩
  obtain rfl : m2 = m := by rw [← hm2]; exact HL1.out.1
  have HB3 := Lib.hid (below_step HB2.out hb3')
  have HL2 := Lib.hid (And.intro hm2 hrl2)
  have HRL1 := Lib.hid (HL1.out.2.below hb3')
  have hmn : m2 ≤ 200 := by have := split_len (byt t); rw [hm2, HL.out] at this; omega
  clear hb3' hrl2 hm2
  have deq : ((m2 : Int) != (m2 : Int)) = false := by simp
  go_wp2_with fail
  refine (within_gen a1 (m2 + 1) _ (by omega) W3 (by omega) (by omega) hb1).mono ?_
  rintro e w' ⟨first, hf, rfl, rfl⟩
  go_wp2_with fail
  refine (within_gen a2 7 _ (by omega) W3 (by omega) (by omega) hb2).mono ?_
  rintro e w' ⟨par, hp, rfl, rfl⟩
  have hbl := (HB3.out.block w.heap.size (by have := HB1.out.size; omega)).trans ((HB1.out.block _ hs0).trans HG.out)
  have c0 : W3.cell? ⟨w.heap.size, 0, none⟩ = some (.bool a3) := by simp [World.cell?, hbl]
  have c1 : W3.cell? ⟨w.heap.size, 1, none⟩ = some (.bool b3) := by simp [World.cell?, hbl]
  have c2 : W3.cell? ⟨w.heap.size, 2, none⟩ = some (.bool c3) := by simp [World.cell?, hbl]
  have k3 : W3.cell? ⟨w.heap.size, 3, none⟩ = some (.int .i64 d3) := by simp [World.cell?, hbl]
  have z3 : W3.frozen? ⟨w.heap.size, 3, none⟩ = false := by simp [World.frozen?, hbl]
  have HBL := Lib.hid hbl
  clear hbl
  go_wp2_with fail
  refine (within_gen d3 5 _ (by omega) W3 (by omega) (by omega) hb3).mono ?_
  rintro e w' ⟨dg, hdg, rfl, rfl⟩
  go_wp2_with fail
  obtain ⟨V, hV⟩ : ∃ V, W3.setCell ⟨w.heap.size, 3, none⟩ (.int .i64 (dg : Int)) = V := ⟨_, rfl⟩
  have hvb : V.heap[w.heap.size]? = some (.cells #[.bool a3, .bool b3, .bool c3, .int .i64 (dg : Int)] 27) := by
    rw [← hV]; simp [World.setCell, Array.getElem?_modify, HBL.out]
  have hvs : w.heap.size < V.heap.size := by rw [← hV]; simp [World.setCell]; have := HB3.out.size; have := HB1.out.size; omega
  have HVB : Hid (Below w.heap.size w V) := by
    rw [← hV]; exact (below_step (below_step HB0.out HB1.out) HB3.out).setCell (p := ⟨w.heap.size, 3, none⟩) (Nat.le_refl _) _
  have HRV : Hid (RdB V (some ⟨W0.heap.size, 0, none⟩) (byt t)) := by rw [← hV]; exact rdB_set (HR1.out.below HB3.out) (by omega)
  have HLV1 : Hid (RdL V B1 (splitF (byt t))) := by rw [← hV]; exact rdL_set HBL.out HRL1.out
  have HLV2 : Hid (RdL V B2 (splitF (byt t))) := by rw [← hV]; exact rdL_set HBL.out HL2.out.2
  rw [hV]
  have HVG := Lib.hid hvb
  clear hV hvb c0 c1 c2 k3 z3 HBL
  have hsame := body_same (byt t) (splitF (byt t)) first ((par : Int) - 1) dg (split_lies _) (by rw [HL2.out.1]; omega)
  have hpb : -1 ≤ (par : Int) - 1 := by omega
  have hpb2 : (par : Int) - 1 ≤ 100000 := by omega
  have hlies : Lies t.size (splitF (byt t)) := by rw [← HL.out]; exact split_lies _
  have e1 := body_any W0.heap.size 0 t.size cap (byt t) B1 m2 d1 (splitF (byt t)) first ((par : Int) - 1) ⟨a3, b3, c3, dg⟩ V HL.out hle hmax (by omega) HY.out HRV.out HL2.out.1 hmd1 (by omega) HLV1.out hlies (by omega) hpb hpb2 (by simp only []; omega)
  have e2 := fun X hX => refBody_any W0.heap.size 0 t.size cap (byt t) B2 m2 d2 (splitF (byt t)) first ((par : Int) - 1) ⟨a3, b3, c3, dg⟩ X HL.out hle hmax (by omega) HY.out (HRV.out.below hX) HL2.out.1 hmd2 (by omega) (HLV2.out.below hX) hlies (by omega) hpb hpb2 (by simp only []; omega)
  simp only [] at e1 e2
  rw [hsame] at e2
  generalize bodyF (byt t) (splitF (byt t)) first (extF (byt t) (splitF (byt t)) first ((par : Int) - 1) dg).1 (extF (byt t) (splitF (byt t)) first ((par : Int) - 1) dg).2 = r at e1 e2
  simp only [hdV] at e1 e2
  have E1 := Lib.hid e1
  have E2 := Lib.hid e2
  clear hsame e1 e2 hlies
  have v0 : V.cell? ⟨w.heap.size, 0, none⟩ = some (.bool a3) := by simp [World.cell?, HVG.out]
  have v1 : V.cell? ⟨w.heap.size, 1, none⟩ = some (.bool b3) := by simp [World.cell?, HVG.out]
  have v2 : V.cell? ⟨w.heap.size, 2, none⟩ = some (.bool c3) := by simp [World.cell?, HVG.out]
  have v3 : V.cell? ⟨w.heap.size, 3, none⟩ = some (.int .i64 (dg : Int)) := by simp [World.cell?, HVG.out]
  go_wp2_with fail
  refine E1.out.mono ?_
  rintro e V2 ⟨A1, q1, cp1, l1, ho1, hz1, hm1⟩
  have HO1 := Lib.hid ho1
  have HBV2 := Lib.hid ho1.2.2.1
  have u0 := cell_keep ho1.2.2.1 v0
  have u1 := cell_keep ho1.2.2.1 v1
  have u2 := cell_keep ho1.2.2.1 v2
  have u3 := cell_keep ho1.2.2.1 v3
  clear ho1 v0 v1 v2 v3 E1
  cases r with
  | none =>
    obtain ⟨rfl, rfl, rfl, rfl, rfl⟩ := hm1
    go_wp2_with fail
    refine (E2.out V2 HBV2.out).mono ?_
    rintro e V3 ⟨A2, q2, cp2, l2, ho2, hz2, rfl, rfl, rfl, rfl, rfl⟩
    have HBV3 := Lib.hid (below_step HBV2.out ho2.2.2.1)
    clear ho2 u0 u1 u2 u3 E2
    go_wp2_with fail
    refine (same_any none none 0 0 0 0 [] V3 rfl rfl (by omega) (RdC.nil _ _) (RdC.nil _ _)).mono ?_
    rintro e V4 ⟨rfl, hb4⟩
    have HBV4 := Lib.hid (below_step HBV3.out hb4)
    clear hb4
    go_wp2_with fail
    refine (wakes_any V4).mono ?_
    rintro e V5 ⟨rfl, hb5⟩
    have HBV5 := Lib.hid (below_step HVB.out (below_step HBV4.out hb5))
    clear hb5
    go_wp2
    go_ret
    exact ⟨rfl, HBV5.out⟩
  | some rn =>
    obtain ⟨rows, nx⟩ := rn
    obtain ⟨rfl, hr1⟩ := hm1
    have HR1' := Lib.hid hr1
    clear hr1
    go_wp2_with fail
    refine (E2.out V2 HBV2.out).mono ?_
    rintro e V3 ⟨A2, q2, cp2, l2, ho2, hz2, rfl, hr2⟩
    obtain rfl : l2 = l1 := rows_inj _ _ (by rw [hr2, HR1'.out])
    have HO2 := Lib.hid ho2
    have HBV3 := Lib.hid (below_step HBV2.out ho2.2.2.1)
    have HO1' := Lib.hid (HO1.out.below ho2.2.2.1)
    obtain rfl : q2 = q1 := by rw [← ho2.1]; exact HO1.out.1
    have hqb : q2 ≤ 9223372036854775807 := Nat.le_trans HO1.out.2.2.2.1 HO1.out.2.2.2.2.1
    clear ho2 hr2 u0 u1 u2 u3 E2
    go_wp2_with fail
    refine (same_any A1 A2 q2 cp1 q2 cp2 l2 V3 HO2.out.1 rfl hqb HO1'.out.rd HO2.out.rd).mono ?_
    rintro e V4 ⟨rfl, hb4⟩
    have HBV4 := Lib.hid (below_step HBV3.out hb4)
    clear hb4
    go_wp2_with fail
    refine (wakes_any V4).mono ?_
    rintro e V5 ⟨rfl, hb5⟩
    have HBV5 := Lib.hid (below_step HVB.out (below_step HBV4.out hb5))
    clear hb5
    go_wp2
    go_ret
    exact ⟨rfl, HBV5.out⟩


set_option maxRecDepth 100000 in
theorem lifted (os : Os) (started : os.Started) (H : Type) (enc : TypeId × Value → H) :
    ReturnsInHanded {} Try.checked os 8 .any (Rows.foldBodiesSpec.pre6 enc Try.prog Try.f8 Rows.foldBodiesRow.domain false) (Rows.foldBodiesSpec.post enc Try.prog Try.f8 false true false false) := by
  refine returnsInHanded_of_change (C := Try.checked) own started (by kernel_rfl) Try.func8
    (ChangeSpec.witness6 (enc := enc) (C := Try.checked) false ⟨#[], #[.string ByteArray.empty, .int .i64 0, .int .i64 0, .agg #[.bool false, .bool false, .bool false, .int .i64 0]], []⟩ 8 (by kernel_rfl) (by kernel_rfl) (by kernel_rfl) (by kernel_rfl)) ?_
  intro W base args ds gs before hval0 hW hcnd _
  have hval : ∀ (j : Nat) t v, Try.f8.params[j]? = some t → args[j]? = some v → Value.okWide Try.prog W .any base t v := hval0
  have hW' := hW
  obtain ⟨p, q, hA0, hV, rfl, hfz, hnd⟩ := hW
  have hA : DataW.TrodAll enc Try.prog W 0 (fun _ => true) true Try.f8.params.toList args.toList ds p := hA0
  rw [Try.params8] at hA hval
  obtain ⟨v0, vs0, d0, ds0, p0, q0, hargs, rfl, rfl, h0, r0⟩ := trodAll_cons hA
  obtain ⟨v1, vs1, d1, ds1, p1, q1, rfl, rfl, rfl, h1, r1⟩ := trodAll_cons r0
  obtain ⟨v2, vs2, d2, ds2, p2, q2, rfl, rfl, rfl, h2, r2⟩ := trodAll_cons r1
  obtain ⟨v3, vs3, d3, ds3, p3, q3, rfl, rfl, rfl, h3, r3⟩ := trodAll_cons r2
  obtain ⟨rfl, rfl, rfl⟩ := trodAll_nil r3
  obtain rfl : args = #[v0, v1, v2, v3] := by cases args; simp_all
  obtain ⟨rfl, rfl⟩ := trodVars_none hV
  obtain ⟨a0, rfl, rfl, rfl, w0⟩ := open_string Try.underlying9 (hval 0 9 v0 rfl rfl) h0
  obtain ⟨a1, rfl, rfl, rfl, w1⟩ := open_int Try.underlying3 (hval 1 3 v1 rfl rfl) h1
  obtain ⟨a2, rfl, rfl, rfl, w2⟩ := open_int Try.underlying3 (hval 2 3 v2 rfl rfl) h2
  have k3 := h3
  have lt3 : ∀ x ∈ p3, x.block < W.heap.size := by obtain ⟨m, hm⟩ := k3; exact DataW.trod_lt m _ _ _ hm
  obtain ⟨a3, b3, c3, d3, rfl, w3⟩ := open_header (hval 3 27 v3 rfl rfl) h3
  clear hA0 hval0
  refine (walk a0 a1 a2 a3 b3 c3 d3 W w0 w1 w2 w3).mono fun e W' ⟨he, bel⟩ => ?_
  subst he
  exact ⟨_, rfl, _, _, _, [], _, [], hW', trodAll_mk1 (shut_bool Try.underlying4 _), (trodAll_cons_mk (shut_string Try.underlying9 w0) (trodAll_cons_mk (shut_int Try.underlying3 w1) (trodAll_cons_mk (shut_int Try.underlying3 w2) (trodAll_cons_mk (Below.trod laidOut (by kernel_rfl) (of_decide_eq_true (by kernel_rfl)) k3 bel lt3) trodAll_mk0)))), rfl, bel.frame _, fun h => by cases h⟩

theorem over : Rows.foldBodiesRow.holds Try.pinned (OpenSpec.ofChange Rows.foldBodiesSpec) :=
  OpenClaim.holds_of_wide 8 Try.f8 rfl rfl rfl rfl rfl rfl rfl ⟨rfl, rfl, rfl, rfl, rfl⟩ rfl rfl rfl rfl rfl (by kernel_rfl) Try.func8 (by kernel_rfl)
    (of_decide_eq_true (by kernel_rfl)) (by unfold Func.isWrapper; first | (rw [if_pos (by decide +kernel)]; kernel_rfl) | (rw [if_neg (by decide +kernel)]; exact ⟨rfl, rfl⟩))
    (fun os started H enc _ => lifted os started H enc)

theorem proved : Rows.FoldBodiesSaid := over
#print axioms proved
end Go.Proofs.Ytodnfdkcmhiljaa.foldBodies
