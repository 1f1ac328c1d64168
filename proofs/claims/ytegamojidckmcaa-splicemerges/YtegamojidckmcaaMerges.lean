/-
  Proved: the law 'scholium/scholiumlaw03.SpliceMerges' returns true for every input, and every argument reads as it did before. No conditions.
-/
import Derived.Test.YtegamojidckmcaaRows
import Derived.Test.YtegamojidckmcaaSpRun
import Derived.WalkKit
import Derived.ProofKit
import Derived.OpenShut
import Derived.ShutString
import Derived.ChangeOld
import Derived.Below
namespace Go.Proofs.Ytegamojidckmcaa.spliceMerges
open Go.ChangeShapes Go.WideShapes Go.ChangeAt Go.RowKit
open Go.ChangeMaps (open_string shut_string)
set_option linter.unusedVariables false

theorem own : ownKnob Try.prog.godebug = none := by kernel_rfl
theorem laidOut : laidOutB Try.prog = true := by kernel_rfl

/-- A slice of integers that came in. -/
def IsRow (k : IntKind) (w : World) (a : Option Addr) (len cap : Nat) (zs : List Int) : Prop :=
  (a = none ∧ len = 0 ∧ cap = 0 ∧ zs = []) ∨
  ∃ x, a = some x ∧ len ≤ cap ∧ cap ≤ maxLen ∧ zs.length = cap ∧ (∀ i, i < zs.length → w.cell? (x.add i) = some (.int k (zs.getD i 0))) ∧ ∀ n ∈ zs, (Lit.int k n).wf = true

/-- The splices of round k: lettered and cut up to k, as they came from k on. -/
def Upto (k : Nat) (e : List Sp) : Prop := (∀ j, j < k → (spAt e j).s = chr j ∧ 0 ≤ (spAt e j).f ∧ (spAt e j).f < 4 ∧ 0 ≤ (spAt e j).t ∧ (spAt e j).t < 4) ∧ ∀ j, k ≤ j → j < e.length → In64 (spAt e j)
theorem spAt_set {e : List Sp} {k j : Nat} {x : Sp} (hk : k < e.length) : spAt (e.set k x) j = if j = k then x else spAt e j := by
  unfold spAt List.getD
  rw [List.getElem?_set]
  by_cases h : k = j
  · subst h; simp [hk]
  · rw [if_neg h, if_neg (Ne.symm h)]
theorem upto_step {e : List Sp} {k : Nat} {a b : Int} (h : Upto k e) (hk : k < e.length) (h1 : 0 ≤ a) (h2 : a < 4) (h3 : 0 ≤ b) (h4 : b < 4) : Upto (k + 1) (e.set k ⟨a, b, chr k⟩) := by
  constructor
  · intro j hj
    rw [spAt_set hk]
    by_cases hjk : j = k
    · rw [if_pos hjk, hjk]; exact ⟨rfl, h1, h2, h3, h4⟩
    · rw [if_neg hjk]; exact h.1 j (by omega)
  · intro j hj hl
    rw [spAt_set hk, if_neg (by omega)]
    exact h.2 j (by omega) (by simpa using hl)

set_option linter.unusedSimpArgs false in
set_option maxHeartbeats 8000000 in
set_option maxRecDepth 100000 in
theorem walk (a0 : Option Addr) (len0 cap0 : Nat) (z0 : List Sp) (w : World) (w0 : IsSps w a0 len0 cap0 z0) :
    Calls Try.prog 4 #[.slice a0 len0 cap0] w fun e w' => e = .returned (.bool true) ∧ Below w.heap.size w w' := by
  obtain ⟨hsl, hsr, hs64, hsc, hsm, hsA⟩ := w0
  have HS := Lib.hid (And.intro hsl (And.intro hsr hs64))
  clear hsl hsr hs64 hsA
  go_enter Try.func4, Try.ntmps4
  go_wp2_with fail
  refine (splices_raw a0 len0 cap0 z0 30 w HS.out.1 hsc hsm HS.out.2.1 HS.out.2.2).mono ?_
  rintro e W1 ⟨r, A2, m, cap2, rfl, g1, g2, g3, g4, g5, g6, g7, g8, g9⟩
  subst g1
  have HW1 := Lib.hid (And.intro g6 (And.intro g8 g9))
  clear g5 g6 g7 g8 g9 HS
  go_wp2_with fail
  go_loopw [14] (fun i W => ∃ (k : Nat) (e : List Sp), k ≤ r.length ∧ i = .int .i64 (k : Int) ∧ Hid (e.length = r.length ∧ Upto k e ∧ W.ownsRow w.heap.size 28 3 (.slice A2 r.length cap2) r.length (spsC e) ∧ Below w.heap.size w W)) (fun i _ => r.length - (intOf i).toNat)
  case atStart => exact ⟨0, r, by omega, rfl, rfl, ⟨fun j hj => by omega, fun j _ hj => HW1.out.1 _ (spAt_mem hj)⟩, HW1.out.2.1, HW1.out.2.2⟩
  case round =>
    obtain ⟨k, e, hk, rfl, HK⟩ := hrel
    obtain ⟨wo, hwo⟩ : ∃ x, x = wr := ⟨_, rfl⟩
    subst hwo
    by_cases hlt : k < r.length
    · obtain ⟨g, hg⟩ : ∃ g, A2 = some ⟨g, 0, none⟩ := by
        rcases HK.out.2.2.1.2 with ⟨_, h⟩ | ⟨g, cap', cur, h, _⟩
        · omega
        · injection h with h; exact ⟨g, h⟩
      subst hg
      have hke : k < e.length := by rw [HK.out.1]; exact hlt
      obtain ⟨c0, c1, c2⟩ := spsC_at e k _ (spAt_some hke)
      have cc : ∀ (i : Nat) (v : Value), (spsC e)[i]? = some v → i < r.length * 3 → wo.cell? ⟨g, i, none⟩ = some v := fun i v h hi => by rw [HK.out.2.2.1.cellAt i hi, h]
      have c0 := cc _ _ c0 (by omega)
      have c1 := cc _ _ c1 (by omega)
      have c2 := cc _ _ c2 (by omega)
      have f0 := HK.out.2.2.1.frozenAt (k * 3)
      have f1 := HK.out.2.2.1.frozenAt (k * 3 + 1)
      have f2 := HK.out.2.2.1.frozenAt (k * 3 + 2)
      have hx := HK.out.2.1.2 k (Nat.le_refl _) hke
      generalize spAt e k = x at *
      obtain ⟨hx1, hx2, hx3, hx4, hx5⟩ := hx
      clear cc
      have dk : (k : Int) < (r.length : Int) := by omega
      go_wp2_with fail
      refine gen_act fun a0 hA => ?_
      have hsz : a0.tmps.size = 158 := by rw [hA]; rfl
      have e3 : a0.eval (.tmp 3) = .slice (some ⟨g, 0, none⟩) r.length cap2 := by rw [hA]; rfl
      have e4 : a0.eval (.tmp 4) = .int .i64 (k : Int) := by rw [hA]; rfl
      have hix := ix_run g r.length cap2 k hlt
      have hf0 := fd_run0 g (k * 3)
      have hf1 := fd_run1 g (k * 3)
      have hl0 : ∀ V, (V.cell? ⟨g, k * 3, none⟩ = some (.int .i64 x.f) ∧ V.cell? ⟨g, k * 3 + 1, none⟩ = some (.int .i64 x.t)) → (Instr.loadAt 3 (.pointer (some ⟨g, k * 3, none⟩))).run Try.prog V = .ok (.int .i64 x.f) V := fun V hV => ld_run g _ _ V hV.1
      have hl1 : ∀ V, (V.cell? ⟨g, k * 3, none⟩ = some (.int .i64 x.f) ∧ V.cell? ⟨g, k * 3 + 1, none⟩ = some (.int .i64 x.t)) → (Instr.loadAt 3 (.pointer (some ⟨g, k * 3 + 1, none⟩))).run Try.prog V = .ok (.int .i64 x.t) V := fun V hV => ld_run g _ _ V hV.2
      have hs0 := st_run g (k * 3) (x.f % 4) wo.drew _ c0 f0
      have hs1 := st_run g (k * 3 + 1) (x.t % 4) (wo.drew.setCell ⟨g, k * 3, none⟩ (.int .i64 (x.f % 4))) (.int .i64 x.t) (by rw [World.cell?_setCell_other _ _ _ _ (by simp)]; exact c1) (by rw [World.frozen?_setCell]; exact f1)
      have hS : wo.drew.cell? ⟨g, k * 3, none⟩ = some (.int .i64 x.f) ∧ wo.drew.cell? ⟨g, k * 3 + 1, none⟩ = some (.int .i64 x.t) := ⟨c0, c1⟩
      refine region_gate (fun V => V.cell? ⟨g, k * 3, none⟩ = some (.int .i64 x.f) ∧ V.cell? ⟨g, k * 3 + 1, none⟩ = some (.int .i64 x.t)) 18 (by kernel_rfl) ?_
      change wpGate _ _ _ _ _ _ 22 _ _ _
      refine gate_take0 (i := 0) (v := (.slice (some ⟨g, 0, none⟩) r.length cap2)) rfl (by rfl) (by kernel_rfl) (by kernel_rfl) (by kernel_rfl) (fun _ _ _ h => h) rfl (fun V => by simp [execOp, put_none, evp_same, evp_ne, szp, hsz, e3, e4, hix, hf0, hf1]) hS ?_
      refine gate_take0 (i := 1) (v := (.int .i64 (k : Int))) rfl (by rfl) (by kernel_rfl) (by kernel_rfl) (by kernel_rfl) (fun _ _ _ h => h) rfl (fun V => by simp [execOp, put_none, evp_same, evp_ne, szp, hsz, e3, e4, hix, hf0, hf1]) hS ?_
      refine gate_take0 (i := 2) (v := (.slice (some ⟨g, 0, none⟩) r.length cap2)) rfl (by rfl) (by kernel_rfl) (by kernel_rfl) (by kernel_rfl) (fun _ _ _ h => h) rfl (fun V => by simp [execOp, put_none, evp_same, evp_ne, szp, hsz, e3, e4, hix, hf0, hf1]) hS ?_
      refine gate_take0 (i := 3) (v := (.int .i64 (k : Int))) rfl (by rfl) (by kernel_rfl) (by kernel_rfl) (by kernel_rfl) (fun _ _ _ h => h) rfl (fun V => by simp [execOp, put_none, evp_same, evp_ne, szp, hsz, e3, e4, hix, hf0, hf1]) hS ?_
      refine gate_take0 (i := 4) (v := (.slice (some ⟨g, 0, none⟩) r.length cap2)) rfl (by rfl) (by kernel_rfl) (by kernel_rfl) (by kernel_rfl) (fun _ _ _ h => h) rfl (fun V => by simp [execOp, put_none, evp_same, evp_ne, szp, hsz, e3, e4, hix, hf0, hf1]) hS ?_
      refine gate_take0 (i := 5) (v := (.int .i64 (k : Int))) rfl (by rfl) (by kernel_rfl) (by kernel_rfl) (by kernel_rfl) (fun _ _ _ h => h) rfl (fun V => by simp [execOp, put_none, evp_same, evp_ne, szp, hsz, e3, e4, hix, hf0, hf1]) hS ?_
      refine gate_take0 (i := 6) (v := (.pointer (some ⟨g, k * 3, none⟩))) rfl (by rfl) (by kernel_rfl) (by kernel_rfl) (by kernel_rfl) (fun _ _ _ h => h) rfl (fun V => by simp [execOp, put_none, evp_same, evp_ne, szp, hsz, e3, e4, hix, hf0, hf1]) hS ?_
      refine gate_take0 (i := 7) (v := (.pointer (some ⟨g, k * 3, none⟩))) rfl (by rfl) (by kernel_rfl) (by kernel_rfl) (by kernel_rfl) (fun _ _ _ h => h) rfl (fun V => by simp [execOp, put_none, evp_same, evp_ne, szp, hsz, e3, e4, hix, hf0, hf1]) hS ?_
      refine gate_take (i := 8) (v := (.int .i64 x.f)) rfl (by rfl) (by kernel_rfl) (by kernel_rfl) (by kernel_rfl) (by kernel_rfl) (by kernel_rfl) (fun _ _ _ h => h) rfl (fun V hV => by simp [execOp, put_none, evp_same, evp_ne, szp, hsz, hl0 V hV]) hS ?_
      refine gate_take0 (i := 10) (v := (.slice (some ⟨g, 0, none⟩) r.length cap2)) rfl (by rfl) (by kernel_rfl) (by kernel_rfl) (by kernel_rfl) (fun _ _ _ h => h) rfl (fun V => by simp [execOp, put_none, evp_same, evp_ne, szp, hsz, e3, e4, hix, hf0, hf1]) hS ?_
      refine gate_take0 (i := 11) (v := (.int .i64 (k : Int))) rfl (by rfl) (by kernel_rfl) (by kernel_rfl) (by kernel_rfl) (fun _ _ _ h => h) rfl (fun V => by simp [execOp, put_none, evp_same, evp_ne, szp, hsz, e3, e4, hix, hf0, hf1]) hS ?_
      refine gate_take0 (i := 12) (v := (.pointer (some ⟨g, k * 3, none⟩))) rfl (by rfl) (by kernel_rfl) (by kernel_rfl) (by kernel_rfl) (fun _ _ _ h => h) rfl (fun V => by simp [execOp, put_none, evp_same, evp_ne, szp, hsz, e3, e4, hix, hf0, hf1]) hS ?_
      refine gate_take0 (i := 13) (v := (.pointer (some ⟨g, k * 3 + 1, none⟩))) rfl (by rfl) (by kernel_rfl) (by kernel_rfl) (by kernel_rfl) (fun _ _ _ h => h) rfl (fun V => by simp [execOp, put_none, evp_same, evp_ne, szp, hsz, e3, e4, hix, hf0, hf1]) hS ?_
      refine gate_take (i := 14) (v := (.int .i64 x.t)) rfl (by rfl) (by kernel_rfl) (by kernel_rfl) (by kernel_rfl) (by kernel_rfl) (by kernel_rfl) (fun _ _ _ h => h) rfl (fun V hV => by simp [execOp, put_none, evp_same, evp_ne, szp, hsz, hl1 V hV]) hS ?_
      refine gate_one (i := 9) (by kernel_rfl) ?_
      refine wpOp_call (f := 9) (args := #[.int .i64 x.f, .int .i64 4]) (v := .int .i64 (x.f % 4)) rfl rfl (within_run _ _ (.tmp 25) (.const (.int .i64 4)) #[3, 3] rfl _ _ (by simp [evp_same, evp_ne, szp, hsz]) rfl _) (within_any x.f 4 _ (by omega) (by omega) (by omega)) ⟨fun _ => hS, ?_⟩
      refine gate_one (i := 15) (by kernel_rfl) ?_
      refine wpOp_call (f := 9) (args := #[.int .i64 x.t, .int .i64 4]) (v := .int .i64 (x.t % 4)) rfl rfl (within_run _ _ (.tmp 31) (.const (.int .i64 4)) #[3, 3] rfl _ _ (by simp [evp_same, evp_ne, szp, hsz]) rfl _) (within_any x.t 4 _ (by omega) (by omega) (by omega)) ⟨fun _ => hS, ?_⟩
      refine gate_take0 (i := 16) (v := (.pointer (some ⟨g, k * 3, none⟩))) rfl (by rfl) (by kernel_rfl) (by kernel_rfl) (by kernel_rfl) (fun _ _ _ h => h) rfl (fun V => by simp [execOp, put_none, evp_same, evp_ne, szp, hsz, e3, e4, hix, hf0, hf1]) hS ?_
      refine gate_take0 (i := 17) (v := (.pointer (some ⟨g, k * 3, none⟩))) rfl (by rfl) (by kernel_rfl) (by kernel_rfl) (by kernel_rfl) (fun _ _ _ h => h) rfl (fun V => by simp [execOp, put_none, evp_same, evp_ne, szp, hsz, e3, e4, hix, hf0, hf1]) hS ?_
      refine gate_one (i := 18) (by kernel_rfl) ?_
      refine wpOp_skip rfl rfl (w' := wo.drew.setCell ⟨g, k * 3, none⟩ (.int .i64 (x.f % 4))) (by simp [execOp, put_none, evp_same, evp_ne, szp, hsz, hs0]) ⟨fun h => Bool.noConfusion (show true = false from h), ?_⟩
      refine gate_one (i := 19) (by kernel_rfl) ?_
      refine wpOp_value (w' := wo.drew.setCell ⟨g, k * 3, none⟩ (.int .i64 (x.f % 4))) (v := (.pointer (some ⟨g, k * 3, none⟩))) rfl rfl (by simp [execOp, put_none, evp_same, evp_ne, szp, hsz, e3, e4, hix, hf0, hf1]) ⟨fun h => Bool.noConfusion (show true = false from h), ?_⟩
      refine gate_one (i := 20) (by kernel_rfl) ?_
      refine wpOp_value (w' := wo.drew.setCell ⟨g, k * 3, none⟩ (.int .i64 (x.f % 4))) (v := (.pointer (some ⟨g, k * 3 + 1, none⟩))) rfl rfl (by simp [execOp, put_none, evp_same, evp_ne, szp, hsz, e3, e4, hix, hf0, hf1]) ⟨fun h => Bool.noConfusion (show true = false from h), ?_⟩
      refine gate_one (i := 21) (by kernel_rfl) ?_
      refine wpOp_skip rfl rfl (w' := (wo.drew.setCell ⟨g, k * 3, none⟩ (.int .i64 (x.f % 4))).setCell ⟨g, k * 3 + 1, none⟩ (.int .i64 (x.t % 4))) (by simp [execOp, put_none, evp_same, evp_ne, szp, hsz, hs1]) ⟨fun h => Bool.noConfusion (show true = false from h), ?_⟩
      refine gate_done (by kernel_rfl) ?_ _
      subst hA
      clear hix hf0 hf1 hl0 hl1 hs0 hs1 hS hsz e3 e4
      have o1 := (own_below HK.out.2.2.1 (Below.refl wo.heap.size wo).drew).stored (k * 3) (.int .i64 (x.f % 4))
      have o2 := o1.1.stored (k * 3 + 1) (.int .i64 (x.t % 4))
      have hgb := own_base HK.out.2.2.1 g rfl
      have hbw : Below w.heap.size w ((wo.drew.setCell ⟨g, k * 3, none⟩ (.int .i64 (x.f % 4))).setCell ⟨g, k * 3 + 1, none⟩ (.int .i64 (x.t % 4))) := (HK.out.2.2.2.drew.setCell hgb _).setCell hgb _
      have c2' : ((wo.drew.setCell ⟨g, k * 3, none⟩ (.int .i64 (x.f % 4))).setCell ⟨g, k * 3 + 1, none⟩ (.int .i64 (x.t % 4))).cell? ⟨g, k * 3 + 2, none⟩ = some (.string x.s) := by
        rw [World.cell?_setCell_other _ _ _ _ (by simp), World.cell?_setCell_other _ _ _ _ (by simp)]; exact c2
      have f2' : ((wo.drew.setCell ⟨g, k * 3, none⟩ (.int .i64 (x.f % 4))).setCell ⟨g, k * 3 + 1, none⟩ (.int .i64 (x.t % 4))).frozen? ⟨g, k * 3 + 2, none⟩ = false := by
        rw [World.frozen?_setCell, World.frozen?_setCell]; exact f2
      generalize ((wo.drew.setCell ⟨g, k * 3, none⟩ (.int .i64 (x.f % 4))).setCell ⟨g, k * 3 + 1, none⟩ (.int .i64 (x.t % 4))) = W5 at *
      have hcv := run_string_rd (W5.alloc (.cells #[.int .u8 (97 + (k : Int))] 5)) (some ⟨W5.heap.size, 0, none⟩) 1 1 [97 + (k : Int)] rfl (RdB.new rfl fun j z hz => by
        match j with
        | 0 => simpa using hz
        | j + 1 => simp at hz)
      have hch : strOfNums [97 + (k : Int)] = chr k := rfl
      rw [hch] at hcv
      have hne : ∀ j, (Value.slice (some ⟨g, 0, none⟩) r.length cap2).ownBlock = some j → j ≠ W5.heap.size := fun j hj => by have := own_lt o2.1 j hj; omega
      have o3 := o2.1.stored (k * 3 + 2) (.string (chr k))
      have hset := spsC_set e k ⟨x.f % 4, x.t % 4, chr k⟩ hke
      rw [← hset] at o3
      have hbw2 := hbw.setCell (p := ⟨g, k * 3 + 2, none⟩) hgb (.string (chr k))
      have hbw3 := hbw2.alloc hbw2.size (.cells #[.int .u8 (97 + (k : Int))] 5)
      have HX := Lib.hid (And.intro (own_alloc o3.1 (.cells #[.int .u8 (97 + (k : Int))] 5)) hbw3)
      have hgl : g < W5.heap.size := own_lt o2.1 g rfl
      clear o1 o2 o3 hset hbw hbw2 hbw3 hne hch
      have hup : Upto (k + 1) (e.set k ⟨x.f % 4, x.t % 4, chr k⟩) := upto_step HK.out.2.1 hke (by omega) (by omega) (by omega) (by omega)
      have HU := Lib.hid hup
      clear hup
      generalize chr k = ck at *
      go_wp2
      go_roundw
      case rel =>
        refine ⟨k + 1, e.set k ⟨x.f % 4, x.t % 4, ck⟩, by omega, by go_num, by rw [List.length_set]; exact HK.out.1, ?_, HX.out.1, HX.out.2⟩
        exact HU.out
      case measure => simp [intOf]; omega
    · obtain rfl : k = r.length := by omega
      obtain ⟨hel, hupt, hown, hbel⟩ := HK.out
      clear HK
      have hlet : Lettered e := ⟨by omega, fun j hj => (hupt.1 j (by omega)).1⟩
      obtain ⟨_, _, e2, _, _, hA2⟩ := own_form hown
      injection e2 with e2a _ e2b
      subst e2a e2b
      have HE := Lib.hid (And.intro hel (And.intro hlet (And.intro (RdC.own hown) (And.intro hbel hA2))))
      clear hel hupt hown hbel hlet hA2 HW1
      have hmm := @run_makeMap Try.prog
      go_wp2_with fail
      refine (merge_any A2 r.length cap2 e wo HE.out.1 (by omega) HE.out.2.2.1 HE.out.2.2.2.2 g3).mono ?_
      rintro e1 W3 ⟨AM, m, capm, rfl, q1, q2, q3, q4, q5, hb⟩
      rw [mergeUp_len] at q1
      subst q1
      have hM : mergeUp e r.length = mergeUp e e.length := by rw [HE.out.1]
      rw [hM] at q5
      have HM := Lib.hid (And.intro q5 (And.intro (RdS.below HE.out.2.2.1 hb) (below_step HE.out.2.2.2.1 hb)))
      clear q4 q5 hb hM
      obtain ⟨M, hMe⟩ : ∃ M, M = mergeUp e e.length := ⟨_, rfl⟩
      have hML : M.length = r.length := by rw [hMe, mergeUp_len, HE.out.1]
      have hMat : ∀ i, i < r.length → ∃ q, q < r.length ∧ spAt M i = spAt e q := fun i hi => by
        obtain ⟨q, h1, h2⟩ := let_at HE.out.2.1 (i := i) (by rw [HE.out.1]; exact hi)
        exact ⟨q, by rw [← HE.out.1]; exact h1, by rw [hMe]; exact h2⟩
      have hMo : ∀ i j, i < j → j < r.length → lt3 gT (spAt M i) (spAt M j) ∧ (spAt M i).s ≠ (spAt M j).s := fun i j hij hj => by
        rw [hMe]
        exact ⟨pair_at (let_sorted HE.out.2.1) hij (by rw [mergeUp_len, HE.out.1]; exact hj), let_apart HE.out.2.1 hij (by rw [HE.out.1]; exact hj)⟩
      have hrM := HM.out.1
      rw [← hMe] at hrM
      have HF := Lib.hid (And.intro hML (And.intro hMat (And.intro hMo (And.intro hrM HM.out.2))))
      clear hML hMat hMo hrM hMe HM
      go_wp2_with fail
      clear hmm
      go_loopw [57] (fun i W => ∃ k : Nat, k ≤ r.length ∧ i = .int .i64 (k : Int) ∧ Hid (Seen W W3.heap.size k (fun s => ∃ j, j < k ∧ (spAt M j).s = s) ∧ Below W3.heap.size W3 W)) (fun i _ => r.length - (intOf i).toNat)
      case atStart => exact ⟨0, by omega, rfl, (seen_new W3).mono (fun s h => h.elim), (Below.refl _ _).alloc (Nat.le_refl _) _⟩
      case round =>
        obtain ⟨k, hk, rfl, HK⟩ := hrel
        obtain ⟨wi, hwi⟩ : ∃ x, x = wr := ⟨_, rfl⟩
        subst hwi
        by_cases hlt : k < r.length
        · obtain ⟨q, hq, hyq⟩ := HF.out.2.1 k hlt
          have hq6 : q < 6 := by omega
          have hys : (spAt M k).s = chr q := by rw [hyq]; exact HE.out.2.1.2 q (by rw [HE.out.1]; exact hq)
          obtain ⟨bM, offM, rfl, hbM, hcM⟩ := (RdS.below HF.out.2.2.2.1 HK.out.2).addr (by rw [HF.out.1]; omega)
          obtain ⟨c0, c1, c2⟩ := hcM k (by rw [HF.out.1]; exact hlt)
          obtain ⟨bE, offE, rfl, hbE, hcE⟩ := (RdS.below HF.out.2.2.2.2.1 HK.out.2).addr (by rw [HE.out.1]; omega)
          obtain ⟨d0, d1, d2⟩ := hcE q (by rw [HE.out.1]; exact hq)
          rw [← hyq] at d0 d1 d2
          have hns : ¬ ∃ j, j < k ∧ (spAt M j).s = (spAt M k).s := fun ⟨j, hj, he⟩ => (HF.out.2.2.1 j k hj hlt).2 he
          have hss : (spAt M k).s.size = 1 := by rw [hys]; exact chr_size hq6
          have hidx := chr_index q hq6
          rw [← hys] at hidx
          have hlk : ∀ nq, (Instr.lookup 36 (.map (some W3.heap.size)) (.string (spAt M k).s) false).run Try.prog (wi.drewN nq) = .ok (.bool false) (wi.drewN nq) := fun nq => seen_look (W := wi.drewN nq) HK.out.1 _ (by omega) hns
          have hlk0 := seen_look HK.out.1 (spAt M k).s (by omega) hns
          have hput : ∀ nq, ∃ W5, (Instr.mapUpdate 36 (.map (some W3.heap.size)) (.string (spAt M k).s) (.bool true)).run Try.prog (wi.drewN nq) = .ok () W5 ∧ Seen W5 W3.heap.size (k + 1) (fun s => ∃ j, j < k + 1 ∧ (spAt M j).s = s) ∧ Below W3.heap.size W3 W5 := fun nq => by
            obtain ⟨W5, h1, h2, h3⟩ := seen_put (W := wi.drewN nq) HK.out.1 (spAt M k).s (by omega) (by omega)
            refine ⟨W5, h1, h2.mono ?_, (below_draws HK.out.2 nq).grown h3 (below_draws HK.out.2 nq).size (fun j hj => by injection hj with hj; omega)⟩
            rintro s (⟨j, hj, he⟩ | he)
            · exact ⟨j, by omega, he⟩
            · exact ⟨k, by omega, he.symm⟩
          have HPUT := Lib.hid hput
          have hz1 : (((spAt M k).s.size : Int) != 1) = false := by rw [hss]; rfl
          have HY := Lib.hid (And.intro hyq (And.intro hys hns))
          clear hcM hcE hyq hys hns hss hput
          obtain ⟨y, hy⟩ : ∃ y, y = spAt M k := ⟨_, rfl⟩
          rw [← hy] at c0 c1 c2 d0 d1 d2 hidx hlk hlk0 hz1 HPUT
          have HYY := Lib.hid hy
          clear hy
          have hneq := splice_neq y
          have hgd := splice_guard
          have hw1 : IntKind.u8.wrap (97 + (q : Int) - 97) = (q : Int) := by
            rw [show (97 + (q : Int) - 97) = (q : Int) by omega, IntKind.wrap_u8]; omega
          have hw2 : IntKind.u8.wrap (q : Int) = (q : Int) := by rw [IntKind.wrap_u8]; omega
          have dk : (k : Int) < (r.length : Int) := by omega
          have dq : (q : Int) < (r.length : Int) := by omega
          have dq1 : decide ((r.length : Int) ≤ (q : Int)) = false := decide_eq_false (by omega)
          have dq2 : decide (r.length ≤ q) = false := decide_eq_false (by omega)
          go_wp2_with fail
          go_quiet (fail)
          obtain ⟨W5, hup, hseen, hbel5⟩ := HPUT.out nq
          have HS5 := Lib.hid (And.intro hseen hbel5)
          clear hseen hlk hlk0 HPUT hw1 hw2
          obtain ⟨bM', offM', eM, hbM5, hcM5⟩ := (RdS.below HF.out.2.2.2.1 hbel5).addr (by rw [HF.out.1]; omega)
          injection eM with eM; injection eM with eM1 eM2; subst eM1 eM2
          obtain ⟨c0', c1', c2'⟩ := hcM5 k (by rw [HF.out.1]; exact hlt)
          rw [← HYY.out] at c0' c1' c2'
          clear c0 c1 d0 d1 d2 hidx hneq hgd hz1 hbel5
          by_cases hk0 : k = 0
          · subst hk0
            clear hcM5
            go_wp2
            go_roundw
            case rel => exact ⟨0 + 1, by omega, by go_num, HS5.out.1, HS5.out.2⟩
            case measure => simp [intOf]; omega
          · obtain ⟨p, hp⟩ : ∃ p, k = p + 1 := ⟨k - 1, by omega⟩
            obtain ⟨b0, b1, b2⟩ := hcM5 p (by rw [HF.out.1]; omega)
            have hord := (HF.out.2.2.1 p k (by omega) hlt).1
            obtain ⟨q0, hq0, hy0q⟩ := HF.out.2.1 p (by omega)
            have hgy : gT (spAt M k) = 97 + (q : Int) := by rw [HY.out.1]; exact let_g HE.out.2.1 (by rw [HE.out.1]; exact hq)
            have hgy0 : gT (spAt M p) = 97 + (q0 : Int) := by rw [hy0q]; exact let_g HE.out.2.1 (by rw [HE.out.1]; exact hq0)
            have hys0 : (spAt M p).s = chr q0 := by rw [hy0q]; exact HE.out.2.1.2 q0 (by rw [HE.out.1]; exact hq0)
            have hys := HY.out.2.1
            rw [← HYY.out] at hord hgy hys
            generalize spAt M p = y0 at *
            have hge : q0 < q → ∀ V, (binOp .geq 9 (.string y0.s) (.string y.s)).run Try.prog V = .ok (.bool false) V := fun h V => by rw [hys0, hys]; exact chr_geq q0 (by omega) q (by omega) h V
            unfold lt3 at hord
            rw [hgy, hgy0] at hord
            have hle : q0 < q → Op.bytesLess y0.s.data.toList y.s.data.toList = true ∧ Op.bytesLess y0.s.toList y.s.toList = true := fun h => by rw [hys0, hys]; exact chr_less q0 (by omega) q (by omega) h
            have HGE := Lib.hid (And.intro hge (And.intro hp hle))
            clear hle
            clear hge hgy hgy0 hys hys0 hy0q hcM5
            have dp0 : (0 : Int) ≤ (p : Int) := by omega
            have dp1 : (p : Int) < (r.length : Int) := by omega
            have dk0 : ((k : Int) == 0) = false := beq_eq_false_iff_ne.2 (by omega)
            have dk1 : ¬ ((k : Int) = 0) := by omega
            have d5 : IntKind.i64.wrap ((k : Int) - 1) = (p : Int) := by rw [IntWalk.i64_in _ (by omega)]; omega
            clear hp hk0
            go_wp2_with fail
            go_region
            all_goals
              have hbel6 := fun o1 o2 => ((HS5.out.2.alloc HS5.out.2.size o1).alloc (HS5.out.2.alloc HS5.out.2.size o1).size o2).drew
              have hseen6 : ∀ o1 o2, Seen ((W5.alloc o1).alloc o2).drew W3.heap.size (k + 1) (fun s => ∃ j, j < k + 1 ∧ (spAt M j).s = s) := fun o1 o2 => by
                have h6 := (HS5.out.1.kept (World.grownBy_alloc W5 o1 none) (by simp)).kept (World.grownBy_alloc (W5.alloc o1) o2 none) (by simp)
                exact h6
              have H6 := Lib.hid (And.intro hseen6 hbel6)
              clear hseen6 hbel6 d5 c0' c1' c2' b0 b1 b2 c2 hup
              rcases hord with h1 | ⟨h1, h2 | ⟨h2, h3⟩⟩
              · have t1 : decide (y.f < y0.f) = false := decide_eq_false (by omega)
                have t2 : (y0.f == y.f) = false := beq_eq_false_iff_ne.2 (by omega)
                clear h1
                go_wp2
                go_roundw
                case rel => exact ⟨k + 1, by omega, by go_num, H6.out.1 _ _, H6.out.2 _ _⟩
                case measure => simp [intOf]; omega
              · have t1 : decide (y.f < y0.f) = false := decide_eq_false (by omega)
                have t2 : (y0.f == y.f) = true := beq_iff_eq.2 h1
                have t3 : decide (y.t < y0.t) = false := decide_eq_false (by omega)
                have t4 : (y0.t == y.t) = false := beq_eq_false_iff_ne.2 (by omega)
                clear h1 h2
                go_wp2
                go_roundw
                case rel => exact ⟨k + 1, by omega, by go_num, H6.out.1 _ _, H6.out.2 _ _⟩
                case measure => simp [intOf]; omega
              · have t1 : decide (y.f < y0.f) = false := decide_eq_false (by omega)
                have t2 : (y0.f == y.f) = true := beq_iff_eq.2 h1
                have t3 : decide (y.t < y0.t) = false := decide_eq_false (by omega)
                have t4 : (y0.t == y.t) = true := beq_iff_eq.2 h2
                have hge := HGE.out.1 (by omega)
                obtain ⟨hle1, hle2⟩ := HGE.out.2.2 (by omega)
                clear h1 h2 h3
                go_wp2
                go_roundw
                case rel => exact ⟨k + 1, by omega, by go_num, H6.out.1 _ _, H6.out.2 _ _⟩
                case measure => simp [intOf]; omega
        · have HB := Lib.hid (below_step HF.out.2.2.2.2.2 HK.out.2)
          clear HK
          go_wp2_with fail
          refine (wakes_any wi).mono ?_
          rintro e1 V ⟨rfl, hb⟩
          have HB2 := Lib.hid (below_step HB.out hb)
          clear hb
          go_wp2
          go_ret
          exact ⟨rfl, HB2.out⟩


set_option maxRecDepth 100000 in
theorem lifted (os : Os) (started : os.Started) (H : Type) (enc : TypeId × Value → H) :
    ReturnsInHanded {} Try.checked os 4 .any (Rows.spliceMergesSpec.pre6 enc Try.prog Try.f4 Rows.spliceMergesRow.domain false) (Rows.spliceMergesSpec.post enc Try.prog Try.f4 false true false false) := by
  refine returnsInHanded_of_change (C := Try.checked) own started (by kernel_rfl) Try.func4
    (ChangeSpec.witness6 (enc := enc) (C := Try.checked) false ⟨#[], #[.slice none 0 0], []⟩ 8 (by kernel_rfl) (by kernel_rfl) (by kernel_rfl) (by kernel_rfl)) ?_
  intro W base args ds gs before hval0 hW hcnd _
  have hval : ∀ (j : Nat) t v, Try.f4.params[j]? = some t → args[j]? = some v → Value.okWide Try.prog W .any base t v := hval0
  have hW' := hW
  obtain ⟨p, q, hA0, hV, rfl, hfz, hnd⟩ := hW
  have hA : DataW.TrodAll enc Try.prog W 0 (fun _ => true) true Try.f4.params.toList args.toList ds p := hA0
  rw [Try.params4] at hA hval
  obtain ⟨v0, vs0, d0, ds0, p0, q0, hargs, rfl, rfl, h0, r0⟩ := trodAll_cons hA
  obtain ⟨rfl, rfl, rfl⟩ := trodAll_nil r0
  obtain rfl : args = #[v0] := by cases args; simp_all
  obtain ⟨rfl, rfl⟩ := trodVars_none hV
  obtain ⟨a0, len0, cap0, rfl⟩ := okWide_slice Try.underlying29 (hval 0 29 v0 rfl rfl)
  have k0 := h0
  have lt0 : ∀ x ∈ p0, x.block < W.heap.size := by obtain ⟨m, hm⟩ := k0; exact DataW.trod_lt m _ _ _ hm
  obtain ⟨z0, w0⟩ := open_splices h0
  clear hA0 hval0
  refine (walk a0 len0 cap0 z0 W w0).mono fun e W' ⟨he, bel⟩ => ?_
  subst he
  exact ⟨_, rfl, _, _, _, [], _, [], hW', trodAll_mk1 (shut_bool Try.underlying4 _), (trodAll_cons_mk (Below.trod laidOut (by kernel_rfl) (of_decide_eq_true (by kernel_rfl)) k0 bel lt0) trodAll_mk0), rfl, bel.frame _, fun h => by cases h⟩

theorem over : Rows.spliceMergesRow.holds Try.pinned (OpenSpec.ofChange Rows.spliceMergesSpec) :=
  OpenClaim.holds_of_wide 4 Try.f4 rfl rfl rfl rfl rfl rfl rfl ⟨rfl, rfl, rfl, rfl, rfl⟩ rfl rfl rfl rfl rfl (by kernel_rfl) Try.func4 (by kernel_rfl)
    (of_decide_eq_true (by kernel_rfl)) (by unfold Func.isWrapper; first | (rw [if_pos (by decide +kernel)]; kernel_rfl) | (rw [if_neg (by decide +kernel)]; exact ⟨rfl, rfl⟩))
    (fun os started H enc _ => lifted os started H enc)

theorem proved : Rows.SpliceMergesSaid := over
#print axioms proved
end Go.Proofs.Ytegamojidckmcaa.spliceMerges
