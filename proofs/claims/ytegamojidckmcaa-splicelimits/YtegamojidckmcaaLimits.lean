/-
  Proved: the law 'scholium/scholiumlaw03.SpliceLimits' returns true for every input, and every argument reads as it did before. No conditions.
-/
import Derived.Test.YtegamojidckmcaaRows
import Derived.Test.YtegamojidckmcaaSpFacts
import Derived.WalkKit
import Derived.ProofKit
import Derived.OpenShut
import Derived.ShutString
import Derived.ChangeOld
import Derived.Below
namespace Go.Proofs.Ytegamojidckmcaa.spliceLimits
open Go.ChangeShapes Go.WideShapes Go.ChangeAt Go.RowKit
open Go.ChangeMaps (open_string shut_string)
set_option linter.unusedVariables false

theorem own : ownKnob Try.prog.godebug = none := by kernel_rfl
theorem laidOut : laidOutB Try.prog = true := by kernel_rfl

/-- A slice of integers that came in. -/
def IsRow (k : IntKind) (w : World) (a : Option Addr) (len cap : Nat) (zs : List Int) : Prop :=
  (a = none ∧ len = 0 ∧ cap = 0 ∧ zs = []) ∨
  ∃ x, a = some x ∧ len ≤ cap ∧ cap ≤ maxLen ∧ zs.length = cap ∧ (∀ i, i < zs.length → w.cell? (x.add i) = some (.int k (zs.getD i 0))) ∧ ∀ n ∈ zs, (Lit.int k n).wf = true

theorem rds_new {W : World} {l : List Sp} {C : Array Value} {T : TypeId} {fz : Nat × Nat} (h : C = (spsC l).toArray) : RdS (W.alloc (.cells C T fz)) (some ⟨W.heap.size, 0, none⟩) l := by
  subst h
  exact RdC.new rfl fun k v hv => by simpa using hv
theorem up {W : World} {A : Option Addr} {l : List Sp} (h : RdS W A l) (o : Obj) : RdS (W.alloc o) A l := h.below ((Below.refl _ _).alloc (Nat.le_refl _) _)
def em : ByteArray := ⟨#[]⟩
/-- The splices that are refused, as the law lays them. -/
def lst : Nat → List Sp
  | 0 => [⟨-1, 0, em⟩]
  | 1 => [⟨3, 2, em⟩]
  | 2 => [⟨0, 7, em⟩]
  | 3 => [⟨7, 7, em⟩]
  | 4 => [⟨0, 3, em⟩, ⟨2, 4, em⟩]
  | _ => [⟨4, 4, em⟩, ⟨1, 1, em⟩]
def Refused (l : List Sp) : Prop := All64 l ∧ validF 6 0 l = false
theorem lst_bad : ∀ i, i < 6 → Refused (lst i) := by
  have h : ∀ l : List Sp, (∀ x ∈ l, 0 ≤ x.f + 1 ∧ x.f ≤ 7 ∧ 0 ≤ x.t ∧ x.t ≤ 7 ∧ x.s.size = 0) → validF 6 0 l = false → Refused l := fun l h hv => ⟨fun x hx => by have := h x hx; exact ⟨by omega, by omega, by omega, by omega, by omega⟩, hv⟩
  intro i hi
  match i, hi with
  | 0, _ => exact h _ (by intro x hx; simp [lst] at hx; subst hx; exact ⟨by decide, by decide, by decide, by decide, rfl⟩) (by decide)
  | 1, _ => exact h _ (by intro x hx; simp [lst] at hx; subst hx; exact ⟨by decide, by decide, by decide, by decide, rfl⟩) (by decide)
  | 2, _ => exact h _ (by intro x hx; simp [lst] at hx; subst hx; exact ⟨by decide, by decide, by decide, by decide, rfl⟩) (by decide)
  | 3, _ => exact h _ (by intro x hx; simp [lst] at hx; subst hx; exact ⟨by decide, by decide, by decide, by decide, rfl⟩) (by decide)
  | 4, _ => exact h _ (by intro x hx; simp [lst] at hx; rcases hx with rfl | rfl <;> exact ⟨by decide, by decide, by decide, by decide, rfl⟩) (by decide)
  | 5, _ => exact h _ (by intro x hx; simp [lst] at hx; rcases hx with rfl | rfl <;> exact ⟨by decide, by decide, by decide, by decide, rfl⟩) (by decide)
def lCells (i : Nat) : Obj := .cells (spsC (lst i)).toArray 28
def tabO (g : Nat) : Obj := .cells #[.slice (some ⟨g + 1, 0, none⟩) 1 1, .slice (some ⟨g + 1 + 1, 0, none⟩) 1 1, .slice (some ⟨g + 1 + 1 + 1, 0, none⟩) 1 1, .slice (some ⟨g + 1 + 1 + 1 + 1, 0, none⟩) 1 1, .slice (some ⟨g + 1 + 1 + 1 + 1 + 1, 0, none⟩) 2 2, .slice (some ⟨g + 1 + 1 + 1 + 1 + 1 + 1, 0, none⟩) 2 2] 29
def tabW (V : World) (c : Obj) : World := (((((((V.alloc c).alloc (lCells 0)).alloc (lCells 1)).alloc (lCells 2)).alloc (lCells 3)).alloc (lCells 4)).alloc (lCells 5)).alloc (tabO V.heap.size)
theorem tab_below (V : World) (c : Obj) : Below V.heap.size V (tabW V c) := by
  unfold tabW
  have s : ∀ (W : World) (o : Obj), Below W.heap.size W (W.alloc o) := fun W o => (Below.refl _ _).alloc (Nat.le_refl _) _
  exact below_step (s _ _) (below_step (s _ _) (below_step (s _ _) (below_step (s _ _) (below_step (s _ _) (below_step (s _ _) (below_step (s _ _) (s _ _)))))))
theorem tab_at (V : World) (c : Obj) (i : Nat) (hi : i < 6) : ∃ (b m : Nat), (tabW V c).cell? ⟨V.heap.size + 1 + 1 + 1 + 1 + 1 + 1 + 1, i, none⟩ = some (.slice (some ⟨b, 0, none⟩) m m) ∧ (lst i).length = m ∧ RdS (tabW V c) (some ⟨b, 0, none⟩) (lst i) ∧ m ≤ 2 := by
  have hat : (tabW V c).heap[V.heap.size + 1 + 1 + 1 + 1 + 1 + 1 + 1]? = some (tabO V.heap.size) := by
    have := heap_alloc_new ((((((((V.alloc c).alloc (lCells 0)).alloc (lCells 1)).alloc (lCells 2)).alloc (lCells 3)).alloc (lCells 4)).alloc (lCells 5))) (tabO V.heap.size)
    simpa [tabW] using this
  have r0 : RdS (tabW V c) (some ⟨V.heap.size + 1, 0, none⟩) (lst 0) := by
    have := up (up (up (up (up (up (rds_new (W := V.alloc c) (l := lst 0) (T := 28) (fz := (0, 0)) rfl) (lCells 1)) (lCells 2)) (lCells 3)) (lCells 4)) (lCells 5)) (tabO V.heap.size)
    simpa [tabW, lCells] using this
  have r1 : RdS (tabW V c) (some ⟨V.heap.size + 1 + 1, 0, none⟩) (lst 1) := by
    have := up (up (up (up (up (rds_new (W := (V.alloc c).alloc (lCells 0)) (l := lst 1) (T := 28) (fz := (0, 0)) rfl) (lCells 2)) (lCells 3)) (lCells 4)) (lCells 5)) (tabO V.heap.size)
    simpa [tabW, lCells] using this
  have r2 : RdS (tabW V c) (some ⟨V.heap.size + 1 + 1 + 1, 0, none⟩) (lst 2) := by
    have := up (up (up (up (rds_new (W := ((V.alloc c).alloc (lCells 0)).alloc (lCells 1)) (l := lst 2) (T := 28) (fz := (0, 0)) rfl) (lCells 3)) (lCells 4)) (lCells 5)) (tabO V.heap.size)
    simpa [tabW, lCells] using this
  have r3 : RdS (tabW V c) (some ⟨V.heap.size + 1 + 1 + 1 + 1, 0, none⟩) (lst 3) := by
    have := up (up (up (rds_new (W := (((V.alloc c).alloc (lCells 0)).alloc (lCells 1)).alloc (lCells 2)) (l := lst 3) (T := 28) (fz := (0, 0)) rfl) (lCells 4)) (lCells 5)) (tabO V.heap.size)
    simpa [tabW, lCells] using this
  have r4 : RdS (tabW V c) (some ⟨V.heap.size + 1 + 1 + 1 + 1 + 1, 0, none⟩) (lst 4) := by
    have := up (up (rds_new (W := ((((V.alloc c).alloc (lCells 0)).alloc (lCells 1)).alloc (lCells 2)).alloc (lCells 3)) (l := lst 4) (T := 28) (fz := (0, 0)) rfl) (lCells 5)) (tabO V.heap.size)
    simpa [tabW, lCells] using this
  have r5 : RdS (tabW V c) (some ⟨V.heap.size + 1 + 1 + 1 + 1 + 1 + 1, 0, none⟩) (lst 5) := by
    have := up (rds_new (W := (((((V.alloc c).alloc (lCells 0)).alloc (lCells 1)).alloc (lCells 2)).alloc (lCells 3)).alloc (lCells 4)) (l := lst 5) (T := 28) (fz := (0, 0)) rfl) (tabO V.heap.size)
    simpa [tabW, lCells] using this
  match i, hi with
  | 0, _ => exact ⟨_, 1, by simp [World.cell?, hat, tabO], rfl, r0, by omega⟩
  | 1, _ => exact ⟨_, 1, by simp [World.cell?, hat, tabO], rfl, r1, by omega⟩
  | 2, _ => exact ⟨_, 1, by simp [World.cell?, hat, tabO], rfl, r2, by omega⟩
  | 3, _ => exact ⟨_, 1, by simp [World.cell?, hat, tabO], rfl, r3, by omega⟩
  | 4, _ => exact ⟨_, 2, by simp [World.cell?, hat, tabO], rfl, r4, by omega⟩
  | 5, _ => exact ⟨_, 2, by simp [World.cell?, hat, tabO], rfl, r5, by omega⟩
set_option maxHeartbeats 8000000 in
set_option maxRecDepth 100000 in
theorem walk (a0 : Int) (w : World) (w0 : (Lit.int .i64 a0).wf = true) :
    Calls Try.prog 3 #[.int .i64 a0] w fun e w' => e = .returned (.bool true) ∧ Below w.heap.size w w' := by
  have hb0 := bounds_i64 w0
  obtain ⟨hb0a, hb0b⟩ := hb0
  go_enter Try.func3, Try.ntmps3
  go_wp2_with fail
  refine (within_nat a0 3 w (by omega) (by omega) (by omega)).mono ?_
  rintro e W1 ⟨k, hk, rfl, rfl⟩
  obtain ⟨N, hN⟩ : ∃ N : Nat, N = 65530 + k := ⟨_, rfl⟩
  have hmk : ∀ W, (Instr.makeSlice 23 (.int .i64 ((65535 : Int) + k - 5)) (.int .i64 ((65535 : Int) + k - 5))).run Try.prog W = .ok (.slice (some ⟨W.heap.size, 0, none⟩) N N) (W.alloc (.cells (cellsB (List.replicate N 0)) 5)) := by
    intro W
    rw [show ((65535 : Int) + k - 5) = (N : Int) by omega]
    exact run_make_bytes N (by omega) W
  have hzl : (List.replicate N (0 : Int)).length = N := by simp
  obtain ⟨zs, hzs⟩ : ∃ zs : List Int, zs = List.replicate N 0 := ⟨_, rfl⟩
  rw [← hzs] at hmk hzl
  have HN := Lib.hid (And.intro hN hzl)
  clear hN hzl hzs
  have hkc := fun (w : World) (C : Array Value) (n c : Nat) => Lib.run_convert_bytes_const (P := Try.prog) w 23 5 C n c Try.underlying23 Try.underlying5
  go_wp2_with fail
  have hrb : RdB (w.alloc (.cells (cellsB zs) 5)) (some ⟨w.heap.size, 0, none⟩) zs := RdB.new rfl fun k z hz => cellsB_at k z hz
  have hb2 : Below w.heap.size w (w.alloc (.cells (cellsB zs) 5)) := (Below.refl _ _).alloc (Nat.le_refl _) _
  have hrs := RdS.one (W := w.alloc (.cells (cellsB zs) 5)) (x := ⟨3, 3, ⟨#[49, 50, 51, 52, 53]⟩⟩) (T := 28)
  have hbs : Below (w.alloc (.cells (cellsB zs) 5)).heap.size (w.alloc (.cells (cellsB zs) 5)) ((w.alloc (.cells (cellsB zs) 5)).alloc (.cells #[.int .i64 3, .int .i64 3, .string ⟨#[49, 50, 51, 52, 53]⟩] 28)) := (Below.refl _ _).alloc (Nat.le_refl _) _
  have h64 : All64 [⟨3, 3, ⟨#[49, 50, 51, 52, 53]⟩⟩] := by intro x hx; simp at hx; subst hx; exact ⟨by decide, by decide, by decide, by decide, by decide⟩
  have htx : Texts [⟨3, 3, ⟨#[49, 50, 51, 52, 53]⟩⟩] := by intro x hx; simp at hx; subst hx; show (5 : Nat) ≤ 1000000000; omega
  have hsum : sumG [⟨3, 3, ⟨#[49, 50, 51, 52, 53]⟩⟩] = 5 := by decide
  have hN := HN.out.1
  have hval : validF N 0 [⟨3, 3, ⟨#[49, 50, 51, 52, 53]⟩⟩] = true := by rw [valid_cons]; exact ⟨by show (0 : Int) ≤ 3; omega, by show (3 : Int) ≤ 3; omega, by show (3 : Int) ≤ N; omega, rfl⟩
  have hbel := below_step hb2 hbs
  have hrb2 := hrb.below hbs
  clear hbs hb2 hrb
  by_cases h1 : k ≤ 1
  case' pos =>
    refine (do_good (some ⟨w.heap.size, 0, none⟩) N N zs (some ⟨w.heap.size + 1, 0, none⟩) 1 1 _ _ HN.out.2 (Nat.le_refl _) (by omega) (fun h => by cases h) hrb2 (by omega) rfl (by omega) (by omega) h64 (by simpa using hrs) (by omega) htx hval (by rw [hsum]; omega)).mono ?_
    rintro e V ⟨A5, n5, cap5, rfl, m1, m2, m3, m4, m5, m6⟩
    have HB := Lib.hid (below_step hbel m6)
    have d1 : (65535 : Int) + k ≤ 65536 := by omega
    clear m1 m4 m5 m6
  case' neg =>
    refine (do_limit (some ⟨w.heap.size, 0, none⟩) N N (some ⟨w.heap.size + 1, 0, none⟩) 1 1 _ _ (by omega) rfl (by omega) (by omega) h64 (by simpa using hrs) (by omega) htx hval (by rw [hsum]; omega)).mono ?_
    rintro e V ⟨rfl, m6⟩
    have HB := Lib.hid (below_step hbel m6)
    have d1 : decide ((65535 : Int) + k ≤ 65536) = false := decide_eq_false (by omega)
    clear m6
  all_goals
    clear hmk hrs h64 htx hsum hN hval hbel hrb2
    go_wp2_with fail
    have htb := tab_below V (.cells #[.int .u8 97, .int .u8 98, .int .u8 99, .int .u8 100, .int .u8 101, .int .u8 102] 5 (6, 7))
    have hta := tab_at V (.cells #[.int .u8 97, .int .u8 98, .int .u8 99, .int .u8 100, .int .u8 101, .int .u8 102] 5 (6, 7))
    change Code.wp _ _ _ _ (tabW V (.cells #[.int .u8 97, .int .u8 98, .int .u8 99, .int .u8 100, .int .u8 101, .int .u8 102] 5 (6, 7)))
    generalize tabW V (.cells #[.int .u8 97, .int .u8 98, .int .u8 99, .int .u8 100, .int .u8 101, .int .u8 102] 5 (6, 7)) = WT at *
    have HTB := Lib.hid (And.intro htb hta)
    clear htb hta hkc
    go_loopw [60] (fun i U => ∃ j : Nat, j ≤ 6 ∧ i = .int .i64 (j : Int) ∧ Hid (Below WT.heap.size WT U)) (fun i _ => 6 - (intOf i).toNat)
    case atStart => exact ⟨0, by omega, rfl, Below.refl _ _⟩
    case round =>
      obtain ⟨j, hj, rfl, HK⟩ := hrel
      obtain ⟨wo, hwo⟩ : ∃ x, x = wr := ⟨_, rfl⟩
      subst hwo
      by_cases hlt : j < 6
      · obtain ⟨b, m, hc, hl, hrs, hm2⟩ := HTB.out.2 j hlt
        have hc' := cell_kept HK.out hc
        have hrs' := hrs.below HK.out
        obtain ⟨h64, hv⟩ := lst_bad j hlt
        have HL := Lib.hid (And.intro hl (And.intro hrs' (And.intro h64 hv)))
        clear hc hl hrs hrs' h64 hv
        generalize lst j = l at *
        have dj : (j : Int) < 6 := by omega
        go_wp2_with fail
        refine (do_bad (some ⟨V.heap.size, 0, none⟩) 6 6 [0, 0, 0, 0, 0, 0] (some ⟨b, 0, none⟩) m m l wo rfl (by omega) HL.out.1 (Nat.le_refl _) (by omega) HL.out.2.2.1 HL.out.2.1 HL.out.2.2.2).mono ?_
        rintro e U ⟨rfl, hb⟩
        have HU := Lib.hid (And.intro (below_step HK.out hb) (HL.out.2.1.below hb))
        clear hb
        go_wp2_with fail
        refine (valid_any (some ⟨b, 0, none⟩) m m l 6 U HL.out.1 (Nat.le_refl _) (by omega) HL.out.2.2.1 HU.out.2 (by omega)).mono ?_
        rw [HL.out.2.2.2]
        rintro e U2 ⟨rfl, hb⟩
        have HU2 := Lib.hid (below_step HU.out.1 hb)
        clear hb
        go_wp2
        go_roundw
        case rel => exact ⟨j + 1, by omega, by go_num, HU2.out⟩
        case measure => simp [intOf]; omega
      · obtain rfl : j = 6 := by omega
        have hbw := below_step HB.out (below_step HTB.out.1 HK.out)
        have HBW := Lib.hid hbw
        clear hbw HK HTB
        go_wp2_with fail
        have hr3 := rds_new (W := wo) (l := [⟨0, 0, em⟩, ⟨0, 6, em⟩, ⟨6, 6, em⟩]) (C := #[.int .i64 0, .int .i64 0, .string ⟨#[]⟩, .int .i64 0, .int .i64 6, .string ⟨#[]⟩, .int .i64 6, .int .i64 6, .string ⟨#[]⟩]) (T := 28) (fz := (0, 0)) rfl
        refine (valid_any _ 3 3 [⟨0, 0, em⟩, ⟨0, 6, em⟩, ⟨6, 6, em⟩] 6 _ rfl (by omega) (by omega) (by intro x hx; simp at hx; rcases hx with rfl | rfl | rfl <;> exact ⟨by decide, by decide, by decide, by decide, by show (0 : Nat) ≤ _; omega⟩) hr3 (by omega)).mono ?_
        have hv3 : validF 6 0 [⟨0, 0, em⟩, ⟨0, 6, em⟩, ⟨6, 6, em⟩] = true := by decide
        rw [hv3]
        rintro e U ⟨rfl, hb⟩
        have HU := Lib.hid (below_step (HBW.out.alloc HBW.out.size _) hb)
        clear hb hr3 hv3
        go_wp2_with fail
        refine (wakes_any U).mono ?_
        rintro e U2 ⟨rfl, hb⟩
        have HU2 := Lib.hid (below_step HU.out hb)
        clear hb
        go_wp2
        go_ret
        exact ⟨rfl, HU2.out⟩


set_option maxRecDepth 100000 in
theorem lifted (os : Os) (started : os.Started) (H : Type) (enc : TypeId × Value → H) :
    ReturnsInHanded {} Try.checked os 3 .any (Rows.spliceLimitsSpec.pre6 enc Try.prog Try.f3 Rows.spliceLimitsRow.domain false) (Rows.spliceLimitsSpec.post enc Try.prog Try.f3 false true false false) := by
  refine returnsInHanded_of_change (C := Try.checked) own started (by kernel_rfl) Try.func3
    (ChangeSpec.witness6 (enc := enc) (C := Try.checked) false ⟨#[], #[.int .i64 0], []⟩ 8 (by kernel_rfl) (by kernel_rfl) (by kernel_rfl) (by kernel_rfl)) ?_
  intro W base args ds gs before hval0 hW hcnd _
  have hval : ∀ (j : Nat) t v, Try.f3.params[j]? = some t → args[j]? = some v → Value.okWide Try.prog W .any base t v := hval0
  have hW' := hW
  obtain ⟨p, q, hA0, hV, rfl, hfz, hnd⟩ := hW
  have hA : DataW.TrodAll enc Try.prog W 0 (fun _ => true) true Try.f3.params.toList args.toList ds p := hA0
  rw [Try.params3] at hA hval
  obtain ⟨v0, vs0, d0, ds0, p0, q0, hargs, rfl, rfl, h0, r0⟩ := trodAll_cons hA
  obtain ⟨rfl, rfl, rfl⟩ := trodAll_nil r0
  obtain rfl : args = #[v0] := by cases args; simp_all
  obtain ⟨rfl, rfl⟩ := trodVars_none hV
  obtain ⟨a0, rfl, rfl, rfl, w0⟩ := open_int Try.underlying3 (hval 0 3 v0 rfl rfl) h0
  clear hA0 hval0
  refine (walk a0 W w0).mono fun e W' ⟨he, bel⟩ => ?_
  subst he
  exact ⟨_, rfl, _, _, _, [], _, [], hW', trodAll_mk1 (shut_bool Try.underlying4 _), (trodAll_cons_mk (shut_int Try.underlying3 w0) trodAll_mk0), rfl, bel.frame _, fun h => by cases h⟩

theorem over : Rows.spliceLimitsRow.holds Try.pinned (OpenSpec.ofChange Rows.spliceLimitsSpec) :=
  OpenClaim.holds_of_wide 3 Try.f3 rfl rfl rfl rfl rfl rfl rfl ⟨rfl, rfl, rfl, rfl, rfl⟩ rfl rfl rfl rfl rfl (by kernel_rfl) Try.func3 (by kernel_rfl)
    (of_decide_eq_true (by kernel_rfl)) (by unfold Func.isWrapper; first | (rw [if_pos (by decide +kernel)]; kernel_rfl) | (rw [if_neg (by decide +kernel)]; exact ⟨rfl, rfl⟩))
    (fun os started H enc _ => lifted os started H enc)

theorem proved : Rows.SpliceLimitsSaid := over
#print axioms proved
end Go.Proofs.Ytegamojidckmcaa.spliceLimits
