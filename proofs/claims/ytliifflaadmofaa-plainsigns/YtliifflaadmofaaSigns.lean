/-
  Proved: the law 'scholium/scholiumlaw04.PlainSigns' returns true for every input, and every argument reads as it did before. No conditions.
-/
import Derived.Test.YtliifflaadmofaaRows
import Derived.Test.YtliifflaadmofaaPlLaw
import Derived.Test.YtliifflaadmofaaKeep
import Derived.WalkKit
import Derived.ProofKit
import Derived.OpenShut
import Derived.ShutString
namespace Go.Proofs.Ytliifflaadmofaa.plainSigns
open Go.ChangeShapes Go.WideShapes Go.ChangeAt Go.RowKit
open Go.ChangeMaps (open_string shut_string)
set_option linter.unusedVariables false      -- a walk need not use every 'w<i>' (that an integer argument fits its kind)

theorem own : ownKnob Try.prog.godebug = none := by kernel_rfl

def signs : List Int := [44, 91, 93, 123, 125, 35, 38, 42, 33, 124, 62, 39, 34, 37, 64, 96]
theorem sign_facts : ∀ x ∈ signs, ∀ fl : Bool, startF [x, 97] fl = false ∧ lenF [x, 97] fl = 0 ∧ validF [97, x, 98] fl = !(fl && flo x) := by decide +kernel
theorem dash_facts : ∀ y ∈ ([45, 63, 58] : List Int), ∀ fl : Bool, startF [y, 97] fl = true ∧ startF [y, 32, 97] fl = false ∧ startF [y] fl = false ∧ startF [y, 44] fl = !fl := by decide +kernel
theorem const_facts : ∀ fl : Bool, startF [] fl = false ∧ startF [32, 97] fl = false ∧ startF [45, 45, 45] fl = false ∧ startF [46, 46, 46, 97] fl = false ∧ startF [45, 45, 97] fl = true := by decide +kernel

theorem one_byte {s : ByteArray} {x : Int} (h : byt s = [x]) : ∃ c : UInt8, s.toList = [c] ∧ x = (c.toNat : Int) := by
  rw [Lib.toList_data]
  unfold byt at h
  cases hd : s.data.toList with
  | nil => rw [hd] at h; simp at h
  | cons c t =>
    rw [hd] at h
    simp at h
    obtain ⟨h1, h2⟩ := h
    subst h2
    exact ⟨c, rfl, h1.symm⟩
theorem flo_byte (c : UInt8) : flo (c.toNat : Int) = (c == 44 || c == 91 || c == 93 || c == 123 || c == 125) := by
  have h : ∀ n : Fin 256, flo (n.val : Int) = (UInt8.ofNat n.val == 44 || UInt8.ofNat n.val == 91 || UInt8.ofNat n.val == 93 || UInt8.ofNat n.val == 123 || UInt8.ofNat n.val == 125) := by decide +kernel
  have := h ⟨c.toNat, c.toNat_lt⟩
  simpa using this
theorem dash_at (k : Nat) (hk : k < 3) : ∃ (y : Int) (d : ByteArray), y ∈ ([45, 63, 58] : List Int) ∧ byt d = [y] ∧ (#[Value.string ⟨#[45]⟩, .string ⟨#[63]⟩, .string ⟨#[58]⟩] : Array Value)[k]? = some (.string d) := by
  match k, hk with
  | 0, _ => exact ⟨45, ⟨#[45]⟩, by simp, rfl, rfl⟩
  | 1, _ => exact ⟨63, ⟨#[63]⟩, by simp, rfl, rfl⟩
  | 2, _ => exact ⟨58, ⟨#[58]⟩, by simp, rfl, rfl⟩
theorem sign_cut : ∀ k : Fin 16, ∃ x, x ∈ signs ∧ ((((signs.drop k.val).take (16 - k.val)).drop 0).take (1 - 0)) = [x] := by decide +kernel

set_option maxHeartbeats 8000000 in
set_option maxRecDepth 100000 in
theorem walk (a0 : Int) (a1 : Bool) (w0 : (Lit.int .i64 a0).wf = true) (w : World) :
    Calls Try.prog 4 #[.int .i64 a0, .bool a1] w fun e w' => e = .returned (.bool true) ∧ Below w.heap.size w w' := by
  have hb0 := bounds_i64 w0
  go_enter Try.func4, Try.ntmps4
  go_wp2_with fail
  refine (within_nat a0 16 w (by omega) (by omega) (by omega)).mono ?_
  rintro e w' ⟨k, hk, rfl, rfl⟩
  go_upto_region 3 with fail
  obtain ⟨x, hx, hbx⟩ : ∃ x, x ∈ signs ∧ byt (((⟨#[44, 91, 93, 123, 125, 35, 38, 42, 33, 124, 62, 39, 34, 37, 64, 96]⟩ : ByteArray).extract k 16).extract 0 1) = [x] := by
    obtain ⟨x, h1, h2⟩ := sign_cut ⟨k, hk⟩
    refine ⟨x, h1, ?_⟩
    rw [byt_extract, byt_extract]
    exact h2
  generalize ((⟨#[44, 91, 93, 123, 125, 35, 38, 42, 33, 124, 62, 39, 34, 37, 64, 96]⟩ : ByteArray).extract k 16).extract 0 1 = cs at *
  have hz : cs.size ≤ 1 := by have := byt_len cs; rw [hbx] at this; simp at this; omega
  obtain ⟨f1, f2, f3⟩ := sign_facts x hx a1
  have HF1 := Lib.hid f1
  have HF2 := Lib.hid f2
  have HF3 := Lib.hid f3
  have HBX := Lib.hid hbx
  have HX := Lib.hid hx
  clear f1 f2 f3 hbx hx hk w0
  obtain ⟨u, hu⟩ : ∃ u, cs ++ (⟨#[97]⟩ : ByteArray) = u := ⟨_, rfl⟩
  have HU : Hid (byt u = [x, 97]) := by show byt u = _; rw [← hu, byt_append, HBX.out]; rfl
  have hus : u.size ≤ 2 := by have := byt_len u; rw [HU.out] at this; simp at this; omega
  have HW : Hid (Below w.heap.size w w) := Below.refl _ _
  obtain ⟨cap1, V1, B1⟩ := bytes_of u (by omega) w
  have r1 := B1.run
  have HB1 := Lib.hid B1
  clear B1
  go_wp2_with fail
  refine (starts_txt HB1.out HW.out a1 [x, 97] HU.out false HF1.out).mono ?_
  rintro e W1 ⟨rfl, hb1⟩
  have HW1 := Lib.hid hb1
  clear hb1 r1 HB1 HW
  obtain ⟨cap2, V2, B2⟩ := bytes_of u (by omega) W1
  have r2 := B2.run
  have HB2 := Lib.hid B2
  clear B2
  go_wp2_with fail
  refine (length_txt HB2.out HW1.out a1 [x, 97] HU.out 0 HF2.out).mono ?_
  rintro e W2 ⟨rfl, hb2⟩
  have HW2 := Lib.hid hb2
  clear hb2 r2 HB2 HW1 hu
  obtain ⟨u1, hu1⟩ : ∃ u, (⟨#[97]⟩ : ByteArray) ++ cs = u := ⟨_, rfl⟩
  obtain ⟨u2, hu2⟩ : ∃ u, u1 ++ (⟨#[98]⟩ : ByteArray) = u := ⟨_, rfl⟩
  have HU2 : Hid (byt u2 = [97, x, 98]) := by show byt u2 = _; rw [← hu2, byt_append, ← hu1, byt_append, HBX.out]; rfl
  have hu2s : u2.size ≤ 3 := by have := byt_len u2; rw [HU2.out] at this; simp at this; omega
  have hu1s : u1.size ≤ 3 := by have := congrArg ByteArray.size hu2; rw [ByteArray.size_append] at this; omega
  go_wp2_with fail
  refine (valid_txt HW2.out (by omega) a1 [97, x, 98] HU2.out _ HF3.out).mono ?_
  rintro e W3 ⟨rfl, hb3⟩
  have HW3 := Lib.hid hb3
  clear hb3 HW2 hu1 hu2
  generalize hve : (a1 && flo x) = ve at *
  have HVE := Lib.hid hve
  clear hve
  go_upto_region 6 with fail
  go_cut [8] (fun s W => s = .bool ve ∧ W = W3)
  case first =>
    cases a1
    · have he : ve = false := by rw [← HVE.out]; rfl
      subst he
      go_wp2_with fail
      go_meet
      exact ⟨rfl, rfl⟩
    · obtain ⟨c, hc1, hc2⟩ := one_byte HBX.out
      have HE : Hid (ve = (c == 44 || c == 91 || c == 93 || c == 123 || c == 125)) := by show ve = _; rw [← HVE.out, hc2, flo_byte]; rfl
      clear hc2
      go_wp2_with fail
      all_goals go_meet
      all_goals rw [HE.out]
      all_goals first
        | exact ⟨rfl, rfl⟩
        | (refine ⟨?_, rfl⟩; simp [*]; done)
  case rest =>
    obtain ⟨rfl, rfl⟩ := hcut
    have hne : ((!ve) != ve) = true := by cases ve <;> rfl
    go_wp2_with fail
    go_loopw [59] (fun i W => ∃ j : Nat, j ≤ 3 ∧ i = .int .i64 (j : Int) ∧ Hid (Below w.heap.size w W ∧ ∀ k v, (#[Value.string ⟨#[45]⟩, .string ⟨#[63]⟩, .string ⟨#[58]⟩] : Array Value)[k]? = some v → W.cell? ⟨wc.heap.size, k, none⟩ = some v)) (fun i _ => 3 - (intOf i).toNat)
    case atStart => exact ⟨0, by omega, rfl, HW3.out.alloc HW3.out.size _, fun k v h => by rw [World.cell?_alloc_mark]; exact h⟩
    case round =>
      obtain ⟨j, hj, rfl, HJ⟩ := hrel
      obtain ⟨V, hV⟩ : ∃ V, V = wr := ⟨_, rfl⟩
      subst hV
      by_cases hlt : j < 3
      · obtain ⟨y, ds, hy, hds, hat⟩ := dash_at j hlt
        have hcell := HJ.out.2 j _ hat
        obtain ⟨g1, g2, g3, g4⟩ := dash_facts y hy a1
        have HG1 := Lib.hid g1
        have HG2 := Lib.hid g2
        have HG3 := Lib.hid g3
        have HG4 := Lib.hid g4
        have HDS := Lib.hid hds
        have HJ1 := Lib.hid HJ.out.1
        have hdz : ds.size ≤ 1 := by have := byt_len ds; rw [HDS.out] at this; simp at this; omega
        clear g1 g2 g3 g4 hds hy hat
        obtain ⟨p1, hp1⟩ : ∃ u, ds ++ (⟨#[97]⟩ : ByteArray) = u := ⟨_, rfl⟩
        obtain ⟨p2, hp2⟩ : ∃ u, ds ++ (⟨#[32, 97]⟩ : ByteArray) = u := ⟨_, rfl⟩
        obtain ⟨p4, hp4⟩ : ∃ u, ds ++ (⟨#[44]⟩ : ByteArray) = u := ⟨_, rfl⟩
        have HP1 : Hid (byt p1 = [y, 97]) := by show byt p1 = _; rw [← hp1, byt_append, HDS.out]; rfl
        have HP2 : Hid (byt p2 = [y, 32, 97]) := by show byt p2 = _; rw [← hp2, byt_append, HDS.out]; rfl
        have HP4 : Hid (byt p4 = [y, 44]) := by show byt p4 = _; rw [← hp4, byt_append, HDS.out]; rfl
        have s1 : p1.size ≤ 3 := by have := byt_len p1; rw [HP1.out] at this; simp at this; omega
        have s2 : p2.size ≤ 3 := by have := byt_len p2; rw [HP2.out] at this; simp at this; omega
        have s4 : p4.size ≤ 3 := by have := byt_len p4; rw [HP4.out] at this; simp at this; omega
        have dj : (j : Int) < 3 := by omega
        obtain ⟨cap1, V1, B1⟩ := bytes_of p1 (by omega) V
        have r1 := B1.run
        have HB1 := Lib.hid B1
        clear B1
        go_wp2_with fail
        refine (starts_txt HB1.out (Below.refl V.heap.size V) a1 [y, 97] HP1.out true HG1.out).mono ?_
        rintro e X1 ⟨rfl, hb1⟩
        have HX1 := Lib.hid hb1
        clear hb1 r1 HB1
        obtain ⟨cap2, V2, B2⟩ := bytes_of p2 (by omega) X1
        have r2 := B2.run
        have HB2 := Lib.hid B2
        clear B2
        go_wp2_with fail
        refine (starts_txt HB2.out HX1.out a1 [y, 32, 97] HP2.out false HG2.out).mono ?_
        rintro e X2 ⟨rfl, hb2⟩
        have HX2 := Lib.hid hb2
        clear hb2 r2 HB2 HX1
        obtain ⟨cap3, V3, B3⟩ := bytes_of ds (by omega) X2
        have r3 := B3.run
        have HB3 := Lib.hid B3
        clear B3
        go_wp2_with fail
        refine (starts_txt HB3.out HX2.out a1 [y] HDS.out false HG3.out).mono ?_
        rintro e X3 ⟨rfl, hb3⟩
        have HX3 := Lib.hid hb3
        clear hb3 r3 HB3 HX2
        obtain ⟨cap4, V4, B4⟩ := bytes_of p4 (by omega) X3
        have r4 := B4.run
        have HB4 := Lib.hid B4
        clear B4
        go_wp2_with fail
        refine (starts_txt HB4.out HX3.out a1 [y, 44] HP4.out _ HG4.out).mono ?_
        rintro e X4 ⟨rfl, hb4⟩
        have HX4 := Lib.hid hb4
        clear hb4 r4 HB4 HX3
        go_wp2_with fail
        go_roundw
        case rel => exact ⟨j + 1, by omega, by go_num, below_step HJ.out.1 HX4.out, fun k v h => cell_keep HX4.out (HJ.out.2 k v h)⟩
        case measure => simp [intOf]; omega
      · obtain rfl : j = 3 := by omega
        obtain ⟨q1, q2, q3, q4, q5⟩ := const_facts a1
        have HQ1 := Lib.hid q1
        have HQ2 := Lib.hid q2
        have HQ3 := Lib.hid q3
        have HQ4 := Lib.hid q4
        have HQ5 := Lib.hid q5
        have HJ1 := Lib.hid HJ.out.1
        clear q1 q2 q3 q4 q5 HJ
        have kc := fun (w : World) (C : Array Value) (n c : Nat) => Lib.run_convert_bytes_const (P := Try.prog) w 23 5 C n c Try.underlying23 Try.underlying5
        go_wp2_with fail
        refine (starts_any none 0 0 [] a1 V rfl (by omega) (by omega) (fun z h => by cases h) (RdB.nil _ _) false HQ1.out).mono ?_
        rintro e X1 ⟨rfl, hb1⟩
        have HX1 := Lib.hid (below_step HJ1.out hb1)
        clear hb1
        go_wp2_with fail
        refine (starts_lit HX1.out a1 [32, 97] 2 rfl (by omega) (by intro z hz; simp at hz; omega) _ false HQ2.out).mono ?_
        rintro e X2 ⟨rfl, hb2⟩
        have HX2 := Lib.hid hb2
        clear hb2
        go_wp2_with fail
        refine (starts_lit HX2.out a1 [45, 45, 45] 3 rfl (by omega) (by intro z hz; simp at hz; omega) _ false HQ3.out).mono ?_
        rintro e X3 ⟨rfl, hb3⟩
        have HX3 := Lib.hid hb3
        clear hb3
        go_wp2_with fail
        refine (starts_lit HX3.out a1 [46, 46, 46, 97] 4 rfl (by omega) (by intro z hz; simp at hz; omega) _ false HQ4.out).mono ?_
        rintro e X4 ⟨rfl, hb4⟩
        have HX4 := Lib.hid hb4
        clear hb4
        go_wp2_with fail
        refine (starts_lit HX4.out a1 [45, 45, 97] 3 rfl (by omega) (by intro z hz; simp at hz; omega) _ true HQ5.out).mono ?_
        rintro e X5 ⟨rfl, hb5⟩
        have HX5 := Lib.hid hb5
        clear hb5
        go_wp2_with fail
        refine (wakes_any X5).mono ?_
        rintro e X6 ⟨rfl, hb6⟩
        have HX6 := Lib.hid (below_step HX5.out hb6)
        clear hb6
        go_wp2_with fail
        go_ret
        exact ⟨rfl, HX6.out⟩

/-! ### THE ROW's STEP: WRITTEN OUT: LEAVE IT -/
set_option maxRecDepth 100000 in
theorem lifted (os : Os) (started : os.Started) (H : Type) (enc : TypeId × Value → H) :
    ReturnsInHanded {} Try.checked os 4 .any (Rows.plainSignsSpec.pre6 enc Try.prog Try.f4 Rows.plainSignsRow.domain false) (Rows.plainSignsSpec.post enc Try.prog Try.f4 false true false false) := by
  refine returnsInHanded_of_change (C := Try.checked) own started (by kernel_rfl) Try.func4
    (ChangeSpec.witness6 (enc := enc) (C := Try.checked) false ⟨#[], #[.int .i64 0, .bool false], []⟩ 8 (by kernel_rfl) (by kernel_rfl) (by kernel_rfl) (by kernel_rfl)) ?_
  intro W base args ds gs before hval0 hW hcnd _
  have hval : ∀ (j : Nat) t v, Try.f4.params[j]? = some t → args[j]? = some v → Value.okWide Try.prog W .any base t v := hval0
  have hW' := hW
  obtain ⟨p, q, hA0, hV, rfl, hfz, hnd⟩ := hW
  have hA : DataW.TrodAll enc Try.prog W 0 (fun _ => true) true Try.f4.params.toList args.toList ds p := hA0
  rw [Try.params4] at hA hval
  obtain ⟨v0, vs0, d0, ds0, p0, q0, hargs, rfl, rfl, h0, r0⟩ := trodAll_cons hA
  obtain ⟨v1, vs1, d1, ds1, p1, q1, rfl, rfl, rfl, h1, r1⟩ := trodAll_cons r0
  obtain ⟨rfl, rfl, rfl⟩ := trodAll_nil r1
  obtain rfl : args = #[v0, v1] := by cases args; simp_all
  obtain ⟨rfl, rfl⟩ := trodVars_none hV
  obtain ⟨a0, rfl, rfl, rfl, w0⟩ := open_int Try.underlying3 (hval 0 3 v0 rfl rfl) h0
  obtain ⟨a1, rfl, rfl, rfl⟩ := open_bool Try.underlying4 (hval 1 4 v1 rfl rfl) h1
  clear hA0 hval0
  refine (walk a0 a1 w0 W).mono fun e W' ⟨he, hg⟩ => ?_
  subst he
  exact ⟨_, rfl, _, _, _, [], [], [], hW', trodAll_mk1 (shut_bool Try.underlying4 _), (trodAll_cons_mk (shut_int Try.underlying3 w0) (trodAll_cons_mk (shut_bool Try.underlying4 _) trodAll_mk0)), rfl, hg.frame _, fun h => by cases h⟩

theorem over : Rows.plainSignsRow.holds Try.pinned (OpenSpec.ofChange Rows.plainSignsSpec) :=
  OpenClaim.holds_of_wide 4 Try.f4 rfl rfl rfl rfl rfl rfl rfl ⟨rfl, rfl, rfl, rfl, rfl⟩ rfl rfl rfl rfl rfl (by kernel_rfl) Try.func4 (by kernel_rfl)
    (of_decide_eq_true (by kernel_rfl)) (by unfold Func.isWrapper; first | (rw [if_pos (by decide +kernel)]; kernel_rfl) | (rw [if_neg (by decide +kernel)]; exact ⟨rfl, rfl⟩))
    (fun os started H enc _ => lifted os started H enc)

/-- ████ THE STATEMENT ████ -/
theorem proved : Rows.PlainSignsSaid :=
  over
#print axioms proved
end Go.Proofs.Ytliifflaadmofaa.plainSigns
