/-
  Proved: the law 'scholium/scholiumlaw13.TreeRaw' returns true for every input, and every argument reads as it did before. No conditions.
-/
import Derived.Test.YtcddlconcngjlaaRows
import Derived.Test.YtcddlconcngjlaaQO
import Derived.Test.YtcddlconcngjlaaQH
import Derived.Test.YtcddlconcngjlaaQN
import Derived.Test.YtcddlconcngjlaaQA
import Derived.WalkKit
import Derived.ProofKit
import Derived.OpenShut
import Derived.ShutString
import Derived.ChangeOld
import Derived.Below
namespace Go.Proofs.Ytcddlconcngjlaa.treeRaw
open Go.ChangeShapes Go.WideShapes Go.ChangeAt Go.RowKit
open Go.ChangeMaps (open_string shut_string)
set_option linter.unusedVariables false

theorem own : ownKnob Try.prog.godebug = none := by kernel_rfl
theorem laidOut : laidOutB Try.prog = true := by kernel_rfl

/-- A slice of integers that came in. -/
def IsRow (k : IntKind) (w : World) (a : Option Addr) (len cap : Nat) (zs : List Int) : Prop :=
  (a = none ∧ len = 0 ∧ cap = 0 ∧ zs = []) ∨
  ∃ x, a = some x ∧ len ≤ cap ∧ cap ≤ maxLen ∧ zs.length = cap ∧ (∀ i, i < zs.length → w.cell? (x.add i) = some (.int k (zs.getD i 0))) ∧ ∀ n ∈ zs, (Lit.int k n).wf = true

set_option linter.unusedVariables false
set_option linter.unusedSimpArgs false
set_option maxRecDepth 100000
set_option maxHeartbeats 16000000
theorem walk (a0 : Option Addr) (len0 cap0 : Nat) (z0 : List Int) (a1 : Option Addr) (len1 cap1 : Nat) (z1 : List Nat) (a2 : Value) (a3 : Int) (a4 : Int) (w : World) (w0 : IsRow .i64 w a0 len0 cap0 z0) (w1 : IsIRows w a1 len1 cap1 z1) (w2 : IsPlan w a2) (w3 : (Lit.int .i64 a3).wf = true) (w4 : (Lit.int .i64 a4).wf = true) :
    Calls Try.prog 4 #[.slice a0 len0 cap0, .slice a1 len1 cap1, a2, .int .i64 a3, .int .i64 a4] w fun e w' => e = .returned (.bool true) ∧ Below w.heap.size w w' := by
  obtain ⟨A1, n1, c1, A2, n2, c2, rfl, hp⟩ := w2
  obtain ⟨r1, r2, r3⟩ := ints_rd w0
  have HP := Lib.hid (And.intro hp (And.intro w1 r3))
  have k2 := w1.1
  have k3 := w1.2.1
  clear hp r3 w1 w0
  obtain ⟨b0, hb0⟩ : ∃ z, w.heap.size = z := ⟨_, rfl⟩
  obtain ⟨W0, hW0⟩ : ∃ W0, w.alloc (.cells #[.slice A1 n1 c1, .slice A2 n2 c2] 25) = W0 := ⟨_, rfl⟩
  have bb0 : Below w.heap.size w W0 := by rw [← hW0]; exact (Below.refl _ _).alloc (Nat.le_refl _) _
  have u0 : W0.cell? ⟨b0, 0, none⟩ = some (.slice A1 n1 c1) := by rw [← hW0, ← hb0, World.cell?_alloc_mark]; rfl
  have u1 : W0.cell? ⟨b0, 1, none⟩ = some (.slice A2 n2 c2) := by rw [← hW0, ← hb0, World.cell?_alloc_mark]; rfl
  have HB0 := Lib.hid (And.intro bb0 (And.intro u0 u1))
  have hb3 := bounds_i64 w3
  have hb4 := bounds_i64 w4
  clear u0 u1 bb0 w3 w4
  go_enter Try.func4, Try.ntmps4
  go_wp2_with fail
  clear hW0 hb0
  go_loopw [11, 12] (fun v q V => ∃ (i : Nat) (P : List GK) (A : Option Addr) (c : Nat), i ≤ 8 ∧ v = .slice A i c ∧ q = .int .i64 (i : Int) ∧ Hid (GNds W0.heap.size V (.slice A i c) P ∧ P.length = i ∧ (∀ p ∈ P, p.1.kids.length ≤ 4) ∧ Below W0.heap.size W0 V)) (fun _ q _ => 8 - (intOf q).toNat)
  case atStart => exact ⟨0, [], none, 0, by omega, rfl, rfl, GNds.nil _ _, rfl, fun p hp => by simp at hp, Below.refl _ _⟩
  case round =>
    obtain ⟨i, P, A, c, hi8, rfl, rfl, HQ⟩ := hrel
    obtain ⟨V, hV⟩ : ∃ z, z = wr := ⟨_, rfl⟩
    subst hV
    go_upto_region 3 with fail
    go_cut [23] from 16 to 23 (fun v U => v = .bool (decide (i < len0 ∧ i < 8)) ∧ U = V)
    case first =>
      by_cases h0 : i < len0
      · have d0 : (i : Int) < (len0 : Int) := by omega
        by_cases h8 : i < 8
        · have d8 : (i : Int) < 8 := by omega
          go_wp2_with fail
          go_meet
          exact ⟨by rw [decide_eq_true (show i < len0 ∧ i < 8 from ⟨h0, h8⟩)], rfl⟩
        · have d8 : ¬ (i : Int) < 8 := by omega
          go_wp2_with fail
          go_meet
          exact ⟨by rw [decide_eq_false (show ¬ (i < len0 ∧ i < 8) from fun h => h8 h.2)], rfl⟩
      · have d0 : ¬ (i : Int) < (len0 : Int) := by omega
        go_wp2_with fail
        go_meet
        exact ⟨by rw [decide_eq_false (show ¬ (i < len0 ∧ i < 8) from fun h => h0 h.1)], rfl⟩
    case rest =>
      obtain ⟨rfl, rfl⟩ := hcut
      obtain ⟨V0, hV0⟩ : ∃ z, z = wc := ⟨_, rfl⟩
      subst hV0
      by_cases hin : i < len0 ∧ i < 8
      · rw [decide_eq_true hin]
        obtain ⟨h0, h8⟩ := hin
        have d0 : (i : Int) < (len0 : Int) := by omega
        obtain ⟨kb, ko, rfl, hkk⟩ := HP.out.2.2 (by omega)
        obtain ⟨z, hz, hkc⟩ := hkk i h0
        have ck := cell_keep (below_step HB0.out.1 HQ.out.2.2.2) hkc
        clear hkk hkc
        go_wp2_with fail
        refine (within_nat z 5 V0 (by omega) (by omega) hz).mono ?_
        rintro e w5 ⟨q, hq, rfl, rfl⟩
        obtain ⟨Y, hY⟩ : ∃ y, y = V0 := ⟨_, rfl⟩
        subst hY
        obtain ⟨S, hS⟩ : ∃ z, Y.heap.size = z := ⟨_, rfl⟩
        go_upto_region 6 with fail
        obtain ⟨V1, hV1⟩ : ∃ U, Y.alloc (.cells #[.int .i64 (q : Int), .int .i64 0, .string ⟨#[]⟩, .string ⟨#[]⟩, .string ⟨#[]⟩, .int .i64 0, .int .i64 0, .int .i64 0, .int .i64 0, .slice none 0 0] 41) = U := ⟨_, rfl⟩
        have hb1 : Below Y.heap.size Y V1 := by rw [← hV1]; exact (Below.refl _ _).alloc (Nat.le_refl _) _
        have bx : Box V1 S (gnC (kdG q []) (.slice none 0 0)) := by rw [← hV1, ← hS]; exact Box.new Y _
        have HX := Lib.hid (And.intro hb1 bx)
        rw [hV1]
        clear hb1 bx ck hV1
        go_upto_if 35 with fail
        go_cut [12] (fun v U => v = .int .i64 (i : Int) ∧ ∃ (ks : List Int) (A9 : Option Addr) (c9 : Nat), ks.length ≤ 4 ∧ Hid (Box U S (gnC (kdG q ks) (.slice A9 ks.length c9)) ∧ U.ownsRow Y.heap.size 3 1 (.slice A9 ks.length c9) ks.length (ki ks) ∧ Below Y.heap.size Y U))
        case first =>
          by_cases h1 : i < len1
          · have d1 : (i : Int) < (len1 : Int) := by omega
            obtain ⟨rb, ro, rfl, A9, n9, c9, hc9, q1, q2, q3, zs, hz1, hz2⟩ := HP.out.2.1.2.2 i h1
            have hbY := below_step HB0.out.1 HQ.out.2.2.2
            have ckr := cell_keep (below_step hbY HX.out.1) hc9
            have CC := Lib.hid (kcutI_at A9 n9 c9 zs V1 hz1 q1 q2 (hz2.below (below_step hbY HX.out.1)) q3)
            clear hc9 hz1 hz2 hbY
            go_wp2_with fail
            refine CC.out.mono ?_
            clear CC ckr
            rintro e V2 ⟨A5, n5, c5, rfl, e1, e2, e3⟩
            have bx2 := HX.out.2.below e3
            have z9 := bx2.cell 9 _ rfl
            have f9 := bx2.frozen 9
            have hS1 : Y.heap.size ≤ S := by omega
            have HN : Hid (Box (V2.setCell ⟨S, 9, none⟩ (.slice A5 n5 c5)) S (gnC (kdG q (zs.take 4)) (.slice A5 n5 c5)) ∧ (V2.setCell ⟨S, 9, none⟩ (.slice A5 n5 c5)).ownsRow Y.heap.size 3 1 (.slice A5 n5 c5) n5 (ki (zs.take 4)) ∧ Below Y.heap.size Y (V2.setCell ⟨S, 9, none⟩ (.slice A5 n5 c5))) := by
              refine ⟨bx2.set 9 _, ?_, (below_step HX.out.1 e3).setCell (p := ⟨S, 9, none⟩) hS1 _⟩
              have hlo := own_base e2
              have hlt := HX.out.2.lt
              exact own_lower (own_setCell e2 _ _ (fun k hk => by have := hlo k hk; show k ≠ S; omega)) HX.out.1.size
            have hn5 : n5 ≤ 4 := by rw [← e1, List.length_take]; omega
            have HE := Lib.hid e1
            clear e1 e2 e3 bx2
            go_wp2_with fail
            go_meet
            refine ⟨rfl, zs.take 4, A5, c5, by rw [HE.out]; exact hn5, ?_⟩
            rw [HE.out]
            exact HN.out
          · have d1 : ¬ (i : Int) < (len1 : Int) := by omega
            go_wp2_with fail
            go_meet
            exact ⟨rfl, [], none, 0, by simp, HX.out.2, own_nil _ _ _ _, HX.out.1⟩
        case rest =>
          obtain ⟨rfl, ks, A9, c9, hk4, HC⟩ := hcut
          obtain ⟨U, hU⟩ : ∃ z, z = wc := ⟨_, rfl⟩
          subst hU
          obtain ⟨kl, hkl⟩ : ∃ z, ks.length = z := ⟨_, rfl⟩
          have HKL := Lib.hid hkl
          rw [hkl] at HC hk4
          clear hkl
          have x0 : U.cell? ⟨S, 0, none⟩ = some (.int .i64 (q : Int)) := HC.out.1.cell 0 _ rfl
          have x1 : U.cell? ⟨S, 1, none⟩ = some (.int .i64 0) := HC.out.1.cell 1 _ rfl
          have x2 : U.cell? ⟨S, 2, none⟩ = some (.string ⟨#[]⟩) := HC.out.1.cell 2 _ rfl
          have x3 : U.cell? ⟨S, 3, none⟩ = some (.string ⟨#[]⟩) := HC.out.1.cell 3 _ rfl
          have x4 : U.cell? ⟨S, 4, none⟩ = some (.string ⟨#[]⟩) := HC.out.1.cell 4 _ rfl
          have x5 : U.cell? ⟨S, 5, none⟩ = some (.int .i64 0) := HC.out.1.cell 5 _ rfl
          have x6 : U.cell? ⟨S, 6, none⟩ = some (.int .i64 0) := HC.out.1.cell 6 _ rfl
          have x7 : U.cell? ⟨S, 7, none⟩ = some (.int .i64 0) := HC.out.1.cell 7 _ rfl
          have x8 : U.cell? ⟨S, 8, none⟩ = some (.int .i64 0) := HC.out.1.cell 8 _ rfl
          have x9 : U.cell? ⟨S, 9, none⟩ = some (.slice A9 kl c9) := HC.out.1.cell 9 _ rfl
          have hPY := HQ.out.1
          have hPU := hPY.below HC.out.2.2
          obtain ⟨S2, hS2⟩ : ∃ z, U.heap.size = z := ⟨_, rfl⟩
          obtain ⟨UB, hUB⟩ : ∃ X, U.alloc (.cells #[.int .i64 (q : Int), .int .i64 0, .string ⟨#[]⟩, .string ⟨#[]⟩, .string ⟨#[]⟩, .int .i64 0, .int .i64 0, .int .i64 0, .int .i64 0, .slice A9 kl c9] 41) = X := ⟨_, rfl⟩
          have hbB : Below U.heap.size U UB := by rw [← hUB]; exact (Below.refl _ _).alloc (Nat.le_refl _) _
          have hnew : RdC UB (some ⟨S2, 0, none⟩) (gkC (kdG q ks, .slice A9 kl c9)) := by rw [← hUB]; exact RdC.new hS2.symm (fun j v hv => by simpa [gkC, gnC, kdG] using hv)
          have hPB := hPU.below hbB
          have hrowB := hPB.row
          rw [HQ.out.2.1] at hrowB
          obtain ⟨v2, UC, hrun, hown, hg, hv⟩ := run_append_rows Try.underlying26 node_info rfl (by omega) (by omega) UB W0.heap.size (.slice A i c) i (gksC P) hrowB (by have := HQ.out.2.2.2.size; have := HC.out.2.2.size; have := hbB.size; omega) (some ⟨S2, 0, none⟩) 1 1 (gkC (kdG q ks, .slice A9 kl c9)) rfl hnew (by intro u hu; simp only [gkC, gnC, kdG, List.mem_cons, List.not_mem_nil, or_false] at hu; rcases hu with rfl | rfl | rfl | rfl | rfl | rfl | rfl | rfl | rfl | rfl <;> rfl) (by omega)
          have hcat : gksC P ++ gkC (kdG q ks, .slice A9 kl c9) = gksC (P ++ [(kdG q ks, .slice A9 kl c9)]) := by rw [gksC_app, gksC_cons]; simp [gksC]
          have hlen : (P ++ [(kdG q ks, Value.slice A9 kl c9)]).length = i + 1 := by simp [HQ.out.2.1]
          rw [hcat] at hown
          have hkB := own_below HC.out.2.1 hbB
          have hW0Y := HQ.out.2.2.2.size
          have hoff : OffG (.slice A9 kl c9) (.slice A i c) P := by
            intro k hk
            have h1 := own_base HC.out.2.1 k hk
            exact ⟨fun e => by have := own_lt hPY.row k e; omega, fun j p hp e => by have := own_lt (hPY.kid j p hp) k e; omega⟩
          have hsn := hPB.snoc (x := kdG q ks) hg hv (by rw [hlen]; exact hown) (own_lower (by show UB.ownsRow Y.heap.size 3 1 (.slice A9 kl c9) ks.length (ki ks); rw [HKL.out]; exact hkB) hW0Y) hoff
          have hbC : Below W0.heap.size W0 UC := (below_step (below_step HQ.out.2.2.2 HC.out.2.2) hbB).grown hg (below_step (below_step HQ.out.2.2.2 HC.out.2.2) hbB).size (fun k hk => own_base hrowB k hk)
          obtain ⟨A6, c6, rfl, _⟩ := own_form hown
          have HN : Hid (GNds W0.heap.size UC (.slice A6 (i + 1) c6) (P ++ [(kdG q ks, .slice A9 kl c9)]) ∧ (P ++ [(kdG q ks, Value.slice A9 kl c9)]).length = i + 1 ∧ (∀ p ∈ P ++ [(kdG q ks, Value.slice A9 kl c9)], p.1.kids.length ≤ 4) ∧ Below W0.heap.size W0 UC) := by
            refine ⟨hsn, hlen, fun p hp => ?_, hbC⟩
            rcases List.mem_append.1 hp with hp | hp
            · exact HQ.out.2.2.1 p hp
            · simp only [List.mem_singleton] at hp
              subst hp
              show ks.length ≤ 4
              rw [HKL.out]; exact hk4
          have HRUN := Lib.hid hrun
          clear hPY hPU hbB hnew hPB hrowB hrun hown hg hv hcat hlen hkB hoff hsn hbC
          go_wp2_with (at_builtin; refine wpList_append_known rfl (.tmp 42) (.tmp 44) 26 rfl (.slice A i c) (.slice (some ⟨S2, 0, none⟩) 1 1) _ UC rfl rfl HRUN.out ?_)
          go_roundw
          case rel => exact ⟨i + 1, _, A6, c6, by omega, rfl, by go_num, HN.out⟩
          case measure => simp [intOf]; omega
      · rw [decide_eq_false hin]
        have p0 := cell_keep HQ.out.2.2.2 HB0.out.2.1
        have p1 := cell_keep HQ.out.2.2.2 HB0.out.2.2
        have HBV := Lib.hid (below_step HB0.out.1 HQ.out.2.2.2)
        go_wp2_with fail
        refine (made_tree HP.out.1 HBV.out).mono ?_
        rintro e V1 ⟨g, n, cap, L, E, rfl, hn1, hn2, hc1, hc2, hT, hb1⟩
        have HT := Lib.hid (And.intro hT hb1)
        clear hT hb1 p0 p1
        go_wp2_with fail
        refine (gmove_at (d := 0) HT.out.1.gl (HT.out.1.sm (by omega)) (by omega) (by omega) (by omega)).mono ?_
        intro e V2 h2
        rw [map_zero] at h2
        obtain ⟨Am, m, cm, Q, rfl, q1, q2, q3, q4, q5, q6⟩ := h2
        obtain rfl : n = m := by rw [← q4, ← HT.out.1.gl.len, ← q5]; simp [glst]
        obtain ⟨gm, rfl, hgm, hgm2⟩ := row_addr (q4 ▸ q3.row) (by omega)
        have HM := Lib.hid (And.intro q3 (And.intro q4 (And.intro q5 q6)))
        clear q3 q4 q5 q6
        obtain ⟨a, haz⟩ : ∃ a : Nat, a3 % (n : Int) = (a : Int) := ⟨(a3 % (n : Int)).toNat, by have := Int.emod_nonneg a3 (show (n : Int) ≠ 0 by omega); omega⟩
        have han : a < n := by have := Int.emod_lt_of_pos a3 (show (0 : Int) < n by omega); omega
        have CA : Hid (∀ X : World, Calls Try.prog 8 #[.int .i64 a3, .int .i64 (n : Int)] X fun e w' => e = .returned (.int .i64 (a : Int)) ∧ X = w') := fun X => by have h := within_any a3 n X (by omega) (by omega) hb3; rw [haz] at h; exact h
        clear haz
        obtain ⟨x, hx⟩ : ∃ x, L[a]? = some x := ⟨L[a]'(by rw [HT.out.1.gl.len]; omega), List.getElem?_eq_getElem _⟩
        obtain ⟨kv, hp⟩ : ∃ kv, Q[a]? = some (x, kv) := glst_look (by rw [HM.out.2.2.1]; exact hx)
        have hkid : V2.ownsRow V1.heap.size 3 1 kv x.kids.length (ki x.kids) := HM.out.1.kid a _ hp
        obtain ⟨K, c3, rfl, n3, n4, _⟩ := own_form hkid
        have hks := HT.out.1.sm (by omega) x (List.mem_of_getElem? hx)
        obtain ⟨ks, hkse⟩ : ∃ z, x.kids = z := ⟨_, rfl⟩
        rw [hkse] at hkid hks hp n3
        obtain ⟨kl, hkl⟩ : ∃ z, ks.length = z := ⟨_, rfl⟩
        rw [hkl] at hkid hks hp n3
        have y9 : V2.cell? ⟨gm, a * 10 + 9, none⟩ = some (.slice K kl c3) := by
          have hr := HM.out.1.row
          rw [HM.out.2.1] at hr
          rw [hr.cellAt _ (by omega), gksC_at Q a 9 _ hp (by omega)]
          rfl
        have hkl6 := hks.1
        have HK := Lib.hid (And.intro hp (And.intro hkid (And.intro hks.2 (And.intro hkse hkl))))
        have da : (a : Int) < (n : Int) := by omega
        clear hx hp hkid hks hkse hkl
        go_wp2_with fail
        refine (CA.out V2).mono ?_
        rintro e w3 ⟨rfl, rfl⟩
        obtain ⟨Y2, hY2⟩ : ∃ y, y = V2 := ⟨_, rfl⟩
        subst hY2
        go_upto_if 60 with fail
        go_cut [14] (fun v U => v = .slice (some ⟨gm, 0, none⟩) n cm ∧ Hid (∃ Q2 : List GK, GNds V1.heap.size U (.slice (some ⟨gm, 0, none⟩) n cm) Q2 ∧ Q2.length = n ∧ (∀ p ∈ Q2, p.1.kids.length ≤ 1000000) ∧ Below V1.heap.size V1 U))
        case first =>
          have hsmall : Hid (∀ p ∈ Q, p.1.kids.length ≤ 1000000) := fun p hp => (HT.out.1.sm (by omega) p.1 (by rw [← HM.out.2.2.1]; exact List.mem_map.2 ⟨p, hp, rfl⟩)).1
          by_cases hk0 : kl = 0
          · have d9 : ¬ (0 : Int) < (kl : Int) := by omega
            clear hk0
            go_wp2_with fail
            go_meet
            exact ⟨rfl, Q, HM.out.1, HM.out.2.1, hsmall.out, HM.out.2.2.2⟩
          · have d9 : (0 : Int) < (kl : Int) := by omega
            obtain ⟨kb, rfl, hkb, _⟩ := row_addr HK.out.2.1 (by omega)
            obtain ⟨j, hjz⟩ : ∃ j : Nat, a4 % (kl : Int) = (j : Int) := ⟨(a4 % (kl : Int)).toNat, by have := Int.emod_nonneg a4 (show (kl : Int) ≠ 0 by omega); omega⟩
            have hjk : j < kl := by have := Int.emod_lt_of_pos a4 (show (0 : Int) < kl by omega); omega
            have CB : Hid (∀ X : World, Calls Try.prog 8 #[.int .i64 a4, .int .i64 (kl : Int)] X fun e w' => e = .returned (.int .i64 (j : Int)) ∧ X = w') := fun X => by have h := within_any a4 kl X (by omega) (by omega) hb4; rw [hjz] at h; exact h
            obtain ⟨d, hdz⟩ : ∃ d : Nat, a4 % (3 : Int) = (d : Int) := ⟨(a4 % (3 : Int)).toNat, by omega⟩
            have hd3 : d < 3 := by omega
            have CD : Hid (∀ X : World, Calls Try.prog 8 #[.int .i64 a4, .int .i64 3] X fun e w' => e = .returned (.int .i64 (d : Int)) ∧ X = w') := fun X => by have h := within_any a4 3 X (by omega) (by omega) hb4; rw [hdz] at h; exact h
            clear hjz hdz
            obtain ⟨k, hk⟩ : ∃ k, ks[j]? = some k := ⟨ks[j]'(by rw [HK.out.2.2.2.2]; exact hjk), List.getElem?_eq_getElem _⟩
            have hkb2 := HK.out.2.2.1 k (List.mem_of_getElem? hk)
            have ck : Y2.cell? ⟨kb, j, none⟩ = some (.int .i64 k) := by rw [HK.out.2.1.cellAt _ (by omega)]; exact ki_at hk
            have fz := HK.out.2.1.frozenAt j
            have w5 : IntKind.i64.wrap ((d : Int) - 1) = (d : Int) - 1 := IntWalk.i64_in _ (by omega)
            have w6 : IntKind.i64.wrap (k + ((d : Int) - 1)) = k + ((d : Int) - 1) := IntWalk.i64_in _ (by omega)
            have dj : (j : Int) < (kl : Int) := by omega
            clear hk
            go_wp2_with fail
            go_still_tail 18, (by kernel_rfl)
            repeat still_step
            refine wpStill_step (fun K hK => ?_)
            go_simp
            refine ⟨.int .i64 (a : Int), ?_, hK _ ?_⟩
            · refine (CA.out Y2.drew).mono ?_
              rintro e w2 ⟨rfl, rfl⟩
              exact ⟨rfl, rfl⟩
            clear hK K
            repeat still_step
            refine wpStill_step (fun K hK => ?_)
            go_simp
            refine ⟨.int .i64 (j : Int), ?_, hK _ ?_⟩
            · refine (CB.out Y2.drew).mono ?_
              rintro e w2 ⟨rfl, rfl⟩
              exact ⟨rfl, rfl⟩
            clear hK K
            repeat still_step
            refine wpStill_step (fun K hK => ?_)
            go_simp
            refine ⟨.int .i64 (d : Int), ?_, hK _ ?_⟩
            · refine (CD.out Y2.drew).mono ?_
              rintro e w2 ⟨rfl, rfl⟩
              exact ⟨rfl, rfl⟩
            clear hK K
            repeat still_step
            refine wpStill_nil ?_
            change wpList _ _ _ _ _ Y2.drew
            have HN : Hid (∃ Q2 : List GK, GNds V1.heap.size (Y2.drew.setCell ⟨kb, j, none⟩ (.int .i64 (k + ((d : Int) - 1)))) (.slice (some ⟨gm, 0, none⟩) n cm) Q2 ∧ Q2.length = n ∧ (∀ p ∈ Q2, p.1.kids.length ≤ 1000000) ∧ Below V1.heap.size V1 (Y2.drew.setCell ⟨kb, j, none⟩ (.int .i64 (k + ((d : Int) - 1))))) := by
              have hD : Below Y2.heap.size Y2 Y2.drew := (Below.refl _ _).drew
              have hs := (HM.out.1.below hD).setKid HK.out.1 (by rw [HK.out.2.2.2.1, HK.out.2.2.2.2]) (j := j) (k + ((d : Int) - 1))
              refine ⟨_, hs, by rw [List.length_set]; exact HM.out.2.1, fun p hp => ?_, (below_step HM.out.2.2.2 hD).setCell (p := ⟨kb, j, none⟩) hkb _⟩
              rcases List.mem_or_eq_of_mem_set hp with hp | rfl
              · exact hsmall.out p hp
              · show (x.kids.set j _).length ≤ 1000000
                rw [List.length_set, HK.out.2.2.2.1, HK.out.2.2.2.2]
                exact hkl6
            have fz2 : Y2.drew.frozen? ⟨kb, j, none⟩ = false := fz
            have ck2 : Y2.drew.cell? ⟨kb, j, none⟩ = some (.int .i64 k) := ck
            obtain ⟨X, hX⟩ : ∃ z, Y2.drew = z := ⟨_, rfl⟩
            rw [hX] at HN fz2 ck2 ⊢
            clear hX
            go_wp2_with fail
            go_meet
            exact ⟨rfl, HN.out⟩
        case rest =>
          obtain ⟨rfl, HC⟩ := hcut
          obtain ⟨U, hU⟩ : ∃ z, z = wc := ⟨_, rfl⟩
          subst hU
          obtain ⟨Q2, z1, z2, z3, z4⟩ := HC.out
          have hbU : Below V0.heap.size V0 U := below_step HT.out.2 z4
          have hgl := (HQ.out.1.gl HQ.out.2.1).below hbU
          have hgm' := z1.gl z2
          have kp : ∀ x ∈ glst P, x.kids.length ≤ 1000000 := fun x hx => by
            obtain ⟨p, hp, rfl⟩ := List.mem_map.1 hx
            have := HQ.out.2.2.1 p hp
            omega
          have kq : ∀ x ∈ glst Q2, x.kids.length ≤ 1000000 := fun x hx => by
            obtain ⟨p, hp, rfl⟩ := List.mem_map.1 hx
            exact z3 p hp
          obtain ⟨t, ht⟩ : ∃ z, tValidF (glst P) = z := ⟨_, rfl⟩
          obtain ⟨s, hs⟩ : ∃ z, tValidF (glst Q2) = z := ⟨_, rfl⟩
          have HG := Lib.hid (And.intro hgl (And.intro hgm' (And.intro kp (And.intro kq (And.intro ht (And.intro hs (below_step HBV.out hbU)))))))
          have htt : (t == t) = true := beq_self_eq_true t
          have hss : (s == s) = true := beq_self_eq_true s
          clear z1 z2 z3 z4 hbU hgl hgm' kp kq ht hs HC
          go_wp2_with fail
          refine (gvalid_at HG.out.1 HG.out.2.2.1 (by omega)).mono ?_
          rintro e U1 ⟨rfl, hb1⟩
          rw [HG.out.2.2.2.2.1]
          have B1 := Lib.hid hb1
          clear hb1
          go_wp2_with fail
          refine (rvalid_at (HG.out.1.below B1.out) HG.out.2.2.1 (by omega)).mono ?_
          rintro e U2 ⟨rfl, hb2⟩
          rw [HG.out.2.2.2.2.1]
          have B2 := Lib.hid (below_step B1.out hb2)
          clear hb2
          go_wp2_with fail
          refine (gvalid_at (HG.out.2.1.below B2.out) HG.out.2.2.2.1 (by omega)).mono ?_
          rintro e U3 ⟨rfl, hb3'⟩
          rw [HG.out.2.2.2.2.2.1]
          have B3 := Lib.hid (below_step B2.out hb3')
          clear hb3'
          go_wp2_with fail
          refine (rvalid_at (HG.out.2.1.below B3.out) HG.out.2.2.2.1 (by omega)).mono ?_
          rintro e U4 ⟨rfl, hb4'⟩
          rw [HG.out.2.2.2.2.2.1]
          have B4 := Lib.hid (below_step B3.out hb4')
          clear hb4'
          go_wp2_with fail
          refine (twakes_at U4).mono ?_
          rintro e U5 ⟨rfl, hb5⟩
          have B5 := Lib.hid (below_step B4.out hb5)
          clear hb5
          go_wp2_with fail
          go_ret
          exact ⟨rfl, below_step HG.out.2.2.2.2.2.2 B5.out⟩


set_option maxRecDepth 100000 in
theorem lifted (os : Os) (started : os.Started) (H : Type) (enc : TypeId × Value → H) :
    ReturnsInHanded {} Try.checked os 4 .any (Rows.treeRawSpec.pre6 enc Try.prog Try.f4 Rows.treeRawRow.domain false) (Rows.treeRawSpec.post enc Try.prog Try.f4 false true false false) := by
  refine returnsInHanded_of_change (C := Try.checked) own started (by kernel_rfl) Try.func4
    (ChangeSpec.witness6 (enc := enc) (C := Try.checked) false ⟨#[], #[.slice none 0 0, .slice none 0 0, .agg #[.slice none 0 0, .slice none 0 0], .int .i64 0, .int .i64 0], []⟩ 8 (by kernel_rfl) (by kernel_rfl) (by kernel_rfl) (by kernel_rfl)) ?_
  intro W base args ds gs before hval0 hW hcnd _
  have hval : ∀ (j : Nat) t v, Try.f4.params[j]? = some t → args[j]? = some v → Value.okWide Try.prog W .any base t v := hval0
  have hW' := hW
  obtain ⟨p, q, hA0, hV, rfl, hfz, hnd⟩ := hW
  have hA : DataW.TrodAll enc Try.prog W 0 (fun _ => true) true Try.f4.params.toList args.toList ds p := hA0
  rw [Try.params4] at hA hval
  obtain ⟨v0, vs0, d0, ds0, p0, q0, hargs, rfl, rfl, h0, r0⟩ := trodAll_cons hA
  obtain ⟨v1, vs1, d1, ds1, p1, q1, rfl, rfl, rfl, h1, r1⟩ := trodAll_cons r0
  obtain ⟨v2, vs2, d2, ds2, p2, q2, rfl, rfl, rfl, h2, r2⟩ := trodAll_cons r1
  obtain ⟨v3, vs3, d3, ds3, p3, q3, rfl, rfl, rfl, h3, r3⟩ := trodAll_cons r2
  obtain ⟨v4, vs4, d4, ds4, p4, q4, rfl, rfl, rfl, h4, r4⟩ := trodAll_cons r3
  obtain ⟨rfl, rfl, rfl⟩ := trodAll_nil r4
  obtain rfl : args = #[v0, v1, v2, v3, v4] := by cases args; simp_all
  obtain ⟨rfl, rfl⟩ := trodVars_none hV
  obtain ⟨a0, len0, cap0, rfl⟩ := okWide_slice Try.underlying22 (hval 0 22 v0 rfl rfl)
  have k0 := h0
  have lt0 : ∀ x ∈ p0, x.block < W.heap.size := by obtain ⟨m, hm⟩ := k0; exact DataW.trod_lt m _ _ _ hm
  obtain ⟨z0, w0⟩ : ∃ zs, IsRow .i64 W a0 len0 cap0 zs := by
    obtain ⟨fuel, hf⟩ := h0
    rcases open_ints Try.underlying22 Try.underlying3 (by kernel_rfl) hf with ⟨hcs, _⟩ | ⟨x, l, c, zs, hcs, _, hl, hm, hz, _, hcell, hwz⟩
    · simp [Value.cells] at hcs
      obtain ⟨rfl, rfl, rfl⟩ := hcs
      exact ⟨[], .inl ⟨rfl, rfl, rfl, rfl⟩⟩
    · simp [Value.cells] at hcs
      obtain ⟨rfl, rfl, rfl⟩ := hcs
      exact ⟨zs, .inr ⟨_, rfl, hl, hm, by simpa using hz, hcell, hwz⟩⟩
  obtain ⟨a1, len1, cap1, rfl⟩ := okWide_slice Try.underlying39 (hval 1 39 v1 rfl rfl)
  have k1 := h1
  have lt1 : ∀ x ∈ p1, x.block < W.heap.size := by obtain ⟨m, hm⟩ := k1; exact DataW.trod_lt m _ _ _ hm
  obtain ⟨z1, w1⟩ := open_irows h1
  have k2 := h2
  have lt2 : ∀ x ∈ p2, x.block < W.heap.size := by obtain ⟨m, hm⟩ := k2; exact DataW.trod_lt m _ _ _ hm
  have w2 := open_plan (hval 2 25 v2 rfl rfl) h2
  obtain ⟨a3, rfl, rfl, rfl, w3⟩ := open_int Try.underlying3 (hval 3 3 v3 rfl rfl) h3
  obtain ⟨a4, rfl, rfl, rfl, w4⟩ := open_int Try.underlying3 (hval 4 3 v4 rfl rfl) h4
  clear hA0 hval0
  refine (walk a0 len0 cap0 z0 a1 len1 cap1 z1 v2 a3 a4 W w0 w1 w2 w3 w4).mono fun e W' ⟨he, bel⟩ => ?_
  subst he
  exact ⟨_, rfl, _, _, _, [], _, [], hW', trodAll_mk1 (shut_bool Try.underlying4 _), (trodAll_cons_mk (Below.trod laidOut (by kernel_rfl) (of_decide_eq_true (by kernel_rfl)) k0 bel lt0) (trodAll_cons_mk (Below.trod laidOut (by kernel_rfl) (of_decide_eq_true (by kernel_rfl)) k1 bel lt1) (trodAll_cons_mk (Below.trod laidOut (by kernel_rfl) (of_decide_eq_true (by kernel_rfl)) k2 bel lt2) (trodAll_cons_mk (shut_int Try.underlying3 w3) (trodAll_cons_mk (shut_int Try.underlying3 w4) trodAll_mk0))))), rfl, bel.frame _, fun h => by cases h⟩

theorem over : Rows.treeRawRow.holds Try.pinned (OpenSpec.ofChange Rows.treeRawSpec) :=
  OpenClaim.holds_of_wide 4 Try.f4 rfl rfl rfl rfl rfl rfl rfl ⟨rfl, rfl, rfl, rfl, rfl⟩ rfl rfl rfl rfl rfl (by kernel_rfl) Try.func4 (by kernel_rfl)
    (of_decide_eq_true (by kernel_rfl)) (by unfold Func.isWrapper; first | (rw [if_pos (by decide +kernel)]; kernel_rfl) | (rw [if_neg (by decide +kernel)]; exact ⟨rfl, rfl⟩))
    (fun os started H enc _ => lifted os started H enc)

theorem proved : Rows.TreeRawSaid := over
#print axioms proved
end Go.Proofs.Ytcddlconcngjlaa.treeRaw
