/-
  Proved: the card of the law 'scholium/scholiumlaw14.CheckCircles' (for every input it returns true, and every argument reads as it did before; the package variables that the row lists are tied to the program's text). No conditions.
-/
import Derived.Test.YtnecapmnbaemiaaGreatDoorRows
import Derived.Test.YtnecapmnbaemiaaGreatDoorCards
import Derived.Test.YtnecapmnbaemiaaGreatDoorTie
import Derived.Test.YtnecapmnbaemiaaGreatDoorDoor
import Derived.Test.YtnecapmnbaemiaaGreatDoorMC
import Derived.Test.YtnecapmnbaemiaaGreatDoorMG
import Derived.Test.YtnecapmnbaemiaaGreatDoorMM
import Derived.Test.YtnecapmnbaemiaaGreatDoorMK
import Derived.Test.YtnecapmnbaemiaaGreatDoorMA
import Derived.WalkKit
import Derived.ProofKit
import Derived.OpenShut
import Derived.ShutString
import Derived.ChangeOld
import Derived.Below
import Derived.LaidMore
import Derived.Lay
import Derived.SevenTiedAt
namespace Go.Proofs.YtnecapmnbaemiaaGreatDoor.checkCircles
open Go.ChangeShapes Go.WideShapes Go.ChangeAt Go.RowKit
open Go.ChangeMaps (open_string shut_string)
set_option linter.unusedVariables false

theorem own : ownKnob Tryz.prog.godebug = none := by kernel_rfl
theorem laidOut : laidOutB Tryz.prog = true := by kernel_rfl

/-- A slice of integers that came in. -/
def IsRow (k : IntKind) (w : World) (a : Option Addr) (len cap : Nat) (zs : List Int) : Prop :=
  (a = none ∧ len = 0 ∧ cap = 0 ∧ zs = []) ∨
  ∃ x, a = some x ∧ len ≤ cap ∧ cap ≤ maxLen ∧ zs.length = cap ∧ (∀ i, i < zs.length → w.cell? (x.add i) = some (.int k (zs.getD i 0))) ∧ ∀ n ∈ zs, (Lit.int k n).wf = true

set_option linter.unusedVariables false
set_option linter.unusedSimpArgs false
set_option maxRecDepth 100000
set_option maxHeartbeats 16000000
theorem walk (a0 : Int) (w : World) (w0 : (Lit.int .i64 a0).wf = true) (hSM : Shorts w ∧ MaxL w) :
    Calls Tryz.prog 4 #[.int .i64 a0] w fun e w' => e = .returned (.bool true) ∧ Below w.heap.size w w' := by
  have hb0 := bounds_i64 w0
  have HS := Lib.hid hSM.1
  have HM := Lib.hid hSM.2
  clear hSM
  go_enter Tryz.func4, Tryz.ntmps4
  go_wp2_with fail
  refine (within_nat a0 6 _ (by omega) (by omega) hb0).mono ?_
  rintro e w' ⟨q, hq, rfl, rfl⟩
  have hn1 : IntKind.i64.wrap (1 + (q : Int)) = ((q + 1 : Nat) : Int) := by rw [IntWalk.i64_in _ (by omega)]; omega
  obtain ⟨n, hn⟩ : ∃ n, q + 1 = n := ⟨_, rfl⟩
  rw [hn] at hn1
  have hn6 : n ≤ 6 := by omega
  have hn0 : 1 ≤ n := by omega
  have HQN := Lib.hid (And.intro hn hq)
  clear hn hq
  obtain ⟨W0, hW0⟩ : ∃ z, z = w := ⟨_, rfl⟩
  go_wp2_with fail
  go_loopw [3, 4, 5] (fun s t i W => ∃ (k : Nat) (x y : ByteArray), k ≤ n ∧ x.size ≤ 4 * k ∧ y.size ≤ k ∧ s = .string x ∧ t = .string y ∧ i = .int .i64 (k : Int) ∧ Hid (byt x = ccT k ∧ byt y = List.replicate k 93 ∧ Below w.heap.size w W)) (fun _ _ i _ => n - (intOf i).toNat)
  case atStart => exact ⟨0, ⟨#[]⟩, ⟨#[]⟩, by omega, by decide, by decide, rfl, rfl, rfl, rfl, rfl, Below.refl _ _⟩
  case round =>
    obtain ⟨k, x, y, hk, hx, hy, rfl, rfl, rfl, HT⟩ := hrel
    obtain ⟨V, hV⟩ : ∃ z, z = wr := ⟨_, rfl⟩
    subst hV
    by_cases hlt : k < n
    · have hd : (k : Int) < (n : Int) := by omega
      have w97 : IntKind.i64.wrap (97 + (k : Int)) = 97 + (k : Int) := IntWalk.i64_in _ (by omega)
      have hcv := run_string_rd (V.alloc (.cells #[.int .u8 (97 + (k : Int))] 5)) (some ⟨V.heap.size, 0, none⟩) 1 1 [97 + (k : Int)] rfl (RdB.new rfl (cellsB_at (zs := [97 + (k : Int)])))
      have hbz : byt (strOfNums [97 + (k : Int)]) = [97 + (k : Int)] := byt_strOfNums _ (by intro y hy; simp at hy; omega)
      generalize strOfNums [97 + (k : Int)] = r at *
      have hrs : r.size ≤ 1 := by have := byt_len r; rw [hbz] at this; simp at this; omega
      have hb1 : Below V.heap.size V (V.alloc (.cells #[.int .u8 (97 + (k : Int))] 5)) := (Below.refl _ _).alloc (Nat.le_refl _) _
      have HZ := Lib.hid (And.intro hbz (below_step HT.out.2.2 hb1))
      clear hbz hb1
      go_wp2_with fail
      go_roundw
      case rel =>
        have h1 : byt (((x ++ ⟨#[38]⟩) ++ r) ++ ⟨#[32, 91]⟩) = ccT (k + 1) := by
          rw [byt_append, byt_append, byt_append, HT.out.1, HZ.out.1, ccT, ccT, List.range_succ, List.flatMap_append]
          simp only [List.append_assoc, List.flatMap_cons, List.flatMap_nil, List.append_nil]
          rfl
        have h2 : byt (y ++ ⟨#[93]⟩) = List.replicate (k + 1) 93 := by rw [byt_append, HT.out.2.1, List.replicate_succ']; rfl
        exact ⟨k + 1, _, _, by omega, by simp only [ByteArray.size_append]; have : (⟨#[38]⟩ : ByteArray).size = 1 := rfl; have : (⟨#[32, 91]⟩ : ByteArray).size = 2 := rfl; omega, by simp only [ByteArray.size_append]; have : (⟨#[93]⟩ : ByteArray).size = 1 := rfl; omega, rfl, rfl, by go_num, h1, h2, HZ.out.2⟩
      case measure => simp [intOf]; omega
    · obtain rfl : k = n := by omega
      clear hlt
      go_wp2_with fail
      go_loopw [6] (fun i W => ∃ j : Nat, j ≤ k ∧ i = .int .i64 (j : Int) ∧ Hid (Below w.heap.size w W)) (fun i _ => k - (intOf i).toNat)
      case atStart => exact ⟨0, Nat.zero_le _, rfl, HT.out.2.2⟩
      case round =>
        obtain ⟨j, hj, rfl, HU⟩ := hrel
        obtain ⟨U, hU⟩ : ∃ z, z = wr := ⟨_, rfl⟩
        subst hU
        by_cases hjk : j < k
        · have dj : (j : Int) < (k : Int) := by omega
          have w97 : IntKind.i64.wrap (97 + (j : Int)) = 97 + (j : Int) := IntWalk.i64_in _ (by omega)
          obtain ⟨U1, hU1⟩ : ∃ z, U.alloc (.cells #[.int .u8 (97 + (j : Int))] 5) = z := ⟨_, rfl⟩
          have hcv : (convert 35 9 (.slice (some ⟨U.heap.size, 0, none⟩) 1 1)).run Tryz.prog U1 = .ok (.string (strOfNums [97 + (j : Int)])) U1 := by
            rw [← hU1]
            exact run_string_rd (U.alloc (.cells #[.int .u8 (97 + (j : Int))] 5)) (some ⟨U.heap.size, 0, none⟩) 1 1 [97 + (j : Int)] rfl (RdB.new rfl (cellsB_at (zs := [97 + (j : Int)])))
          have hbz : byt (strOfNums [97 + (j : Int)]) = [97 + (j : Int)] := byt_strOfNums _ (by intro y hy; simp at hy; omega)
          generalize strOfNums [97 + (j : Int)] = r at *
          have hrs : r.size ≤ 1 := by have := byt_len r; rw [hbz] at this; simp at this; omega
          have hb1 : Below U.heap.size U U1 := by rw [← hU1]; exact (Below.refl _ _).alloc (Nat.le_refl _) _
          obtain ⟨u1, hu1⟩ : ∃ u, x ++ (⟨#[42]⟩ : ByteArray) = u := ⟨_, rfl⟩
          have s1 : u1.size ≤ 4 * k + 1 := by rw [← hu1, ByteArray.size_append]; have : (⟨#[42]⟩ : ByteArray).size = 1 := rfl; omega
          obtain ⟨u2, hu2⟩ : ∃ u, u1 ++ r = u := ⟨_, rfl⟩
          have s2 : u2.size ≤ 4 * k + 2 := by rw [← hu2, ByteArray.size_append]; omega
          obtain ⟨u3, hu3⟩ : ∃ u, u2 ++ (⟨#[32]⟩ : ByteArray) = u := ⟨_, rfl⟩
          have s3 : u3.size ≤ 4 * k + 3 := by rw [← hu3, ByteArray.size_append]; have : (⟨#[32]⟩ : ByteArray).size = 1 := rfl; omega
          obtain ⟨u, hu⟩ : ∃ u, u3 ++ y = u := ⟨_, rfl⟩
          have s4 : u.size ≤ 100 := by rw [← hu, ByteArray.size_append]; omega
          have hub : byt u = ccX k j := by
            rw [← hu, ← hu3, ← hu2, ← hu1, byt_append, byt_append, byt_append, byt_append, HT.out.1, HT.out.2.1, hbz, ccX]
            simp only [List.append_assoc]
            rfl
          have hcc := cc_good ⟨k - 1, by omega⟩ ⟨j, by omega⟩ (by show j ≤ k - 1; omega)
          simp only at hcc
          rw [show k - 1 + 1 = k by omega] at hcc
          unfold ccOk at hcc
          cases hin : inParse (ccX k j) true with
          | error e => rw [hin] at hcc; cases hcc
          | ok l =>
            rw [hin] at hcc
            obtain ⟨h1, h2, h3, h4, t, h5, h6, h7⟩ := ccB_of hcc
            have HB1 := Lib.hid (below_step HU.out hb1)
            have HP := Lib.hid (parse_at (Below.refl _ _) (HS.out.below HB1.out) (HM.out.below HB1.out) u (by omega) true (.ok l) (by rw [hub]; exact hin))
            have HC := Lib.hid (And.intro h1 (And.intro h2 (And.intro h4 (And.intro h5 (And.intro h6 h7)))))
            clear hcc hin hub hbz hb1 h1 h2 h4 h5 h6 h7
            go_wp2_with fail
            refine HP.out.mono ?_
            rintro e W5 ⟨vv, rfl, hL, hb5⟩
            clear HP hu1 hu2 hu3 hu s1 s2 s3 s4 hrs hcv hU1
            have HB5 := Lib.hid (below_step HB1.out hb5)
            obtain ⟨B9, P, hN, hlst⟩ := hL
            obtain ⟨A5, c5, rfl, _⟩ := own_form hN.row
            obtain ⟨k5, hk5⟩ : ∃ z, P.length = z := ⟨_, rfl⟩
            rw [hk5] at hN
            have hgl := hN.gl hk5
            rw [hlst] at hgl
            rw [hk5]
            have hk6 : k5 ≤ 100 := by rw [← hk5, ← lst_len, hlst]; exact h3
            have HGL := Lib.hid hgl
            obtain ⟨m, hm⟩ : ∃ z, l.map gn = z := ⟨_, rfl⟩
            rw [hm] at HGL HC
            clear hN hlst hgl hb5 hk5 hm h3
            go_wp2_with fail
            refine (compose_at HGL.out HC.out.1 HC.out.2.1 (by omega)).mono ?_
            intro e W7 h7
            have h7' : ∃ A n cap, e = .returned (.tuple #[.slice A n cap, .int .i64 0]) ∧ TL W7 A n cap (cmpL (nbrF m) m) ∧ Below W5.heap.size W5 W7 := by
              rcases h7 with ⟨q, _⟩ | ⟨_, q⟩
              · exact absurd HC.out.2.2.1 q
              · exact q
            obtain ⟨A7, n7, c7, rfl, htl, hb7⟩ := h7'
            obtain rfl : k = n7 := by rw [← htl.len]; exact HC.out.2.2.2.2.1.symm
            obtain ⟨g7, rfl, K, kc, kk1, kk2, kk3⟩ := htl.at_ (k - 1) t HC.out.2.2.2.1
            have hkl : t.kids.length = 1 := by rw [HC.out.2.2.2.2.2]; rfl
            have y3 := kk3 3 _ rfl
            rw [hkl] at y3
            rw [HC.out.2.2.2.2.2] at kk2
            obtain ⟨gk, ok, rfl, hkc⟩ := kk2.addr (by rw [ki_len]; simp)
            have yk := hkc 0 (.int .i64 (j : Int)) rfl
            rw [Nat.add_zero] at yk
            have HB7 := Lib.hid (below_step HB5.out hb7)
            have hcap := htl.le
            have hcm := htl.max
            obtain ⟨k1, hk1⟩ : ∃ z, k - 1 = z := ⟨_, rfl⟩
            rw [hk1] at y3
            have wk1 : IntKind.i64.wrap ((k : Int) - 1) = (k1 : Int) := by rw [IntWalk.i64_in _ (by omega)]; omega
            have dk1 : (k1 : Int) < (k : Int) := by omega
            have nkk : ((k : Int) != (k : Int)) = false := bne_self_eq_false _
            have njj : ((j : Int) != (j : Int)) = false := bne_self_eq_false _
            clear h7 htl hb7 kk1 kk2 kk3 hkc hk1 hkl
            go_wp2_with fail
            go_roundw
            case rel => exact ⟨j + 1, by omega, by go_num, HB7.out⟩
            case measure => simp [intOf]; omega
        · obtain rfl : j = k := by omega
          go_wp2_with fail
          refine (cwakes_at _).mono ?_
          rintro e w9 ⟨rfl, hb9⟩
          have H9 := Lib.hid (below_step HU.out hb9)
          clear hb9
          go_wp2_with fail
          go_ret
          exact ⟨rfl, H9.out⟩


set_option maxRecDepth 100000 in
theorem lifted (os : Os) (started : os.Started) (H : Type) (enc : TypeId × Value → H) :
    ReturnsInHanded {} Tryz.checked os 4 .any (fun w args => (Rows.checkCirclesSpec.pre enc Tryz.prog Tryz.f4 Rows.checkCirclesRow.domain false w args ∧ laidMetH Tryz.prog Rows.checkCirclesRow.laid w) ∧ sizedMet enc Tryz.prog Tryz.f4 (OpenSpec.ofChange Rows.checkCirclesSpec) false w args)
      (Rows.checkCirclesSpec.post enc Tryz.prog Tryz.f4 false true false false) := by
  refine returns_listed (C := Tryz.checked) (X := fun w _ => laidMetH Tryz.prog Rows.checkCirclesRow.laid w) (fun _ _ _ hh h => h.of_heap hh) own started (by kernel_rfl) Tryz.func4
    (ChangeSpec.witness_shaped (enc := enc) (C := Tryz.checked) (os := os) (X := fun w _ => laidMetH Tryz.prog Rows.checkCirclesRow.laid w) false (World.laidAll Tryz.prog os Rows.checkCirclesRow.laid) #[.int .i64 0] 8 (World.laidAll_os _ _ _)
      (World.shaped_of_ZipB (by kernel_rfl) (by kernel_rfl)) (by kernel_rfl) (by kernel_rfl) (by kernel_rfl)
      (by rw [MakeChecks.laidMetH_plain _ _ _ (by kernel_rfl)]; exact laidMet_laidAll _ (by kernel_rfl) (by kernel_rfl))) ?_
  intro W base args ds gs before hval0 hW hX hsh
  have hval : ∀ (j : Nat) t v, Tryz.f4.params[j]? = some t → args[j]? = some v → Value.okWide Tryz.prog W .any base t v := hval0
  have hW' := hW
  obtain ⟨p, q, hA0, hV, rfl, hfz, hnd⟩ := hW
  have hA : DataW.TrodAll enc Tryz.prog W 0 (fun _ => true) true Tryz.f4.params.toList args.toList ds p := hA0
  rw [Tryz.params4] at hA hval
  obtain ⟨v0, vs0, d0, ds0, p0, q0, hargs, rfl, rfl, h0, r0⟩ := trodAll_cons hA
  obtain ⟨rfl, rfl, rfl⟩ := trodAll_nil r0
  obtain rfl : args = #[v0] := by cases args; simp_all
  obtain ⟨rfl, rfl⟩ := trodVars_none hV
  obtain ⟨a0, rfl, rfl, rfl, w0⟩ := open_int Tryz.underlying3 (hval 0 3 v0 rfl rfl) h0
  clear hA0 hval0
  refine (walk a0 W w0 (⟨shorts_in hX (by kernel_rfl) (List.mem_of_getElem? (i := 1) rfl), maxL_shaped hsh⟩)).mono fun e W' ⟨he, bel⟩ => ?_
  subst he
  exact ⟨_, rfl, _, _, _, [], _, [], hW', trodAll_mk1 (shut_bool Tryz.underlying4 _), (trodAll_cons_mk (shut_int Tryz.underlying3 w0) trodAll_mk0), rfl, bel.frame _, fun h => by cases h⟩

theorem over : Rows.checkCirclesRow.holds Tryz.pinned (OpenSpec.ofChange Rows.checkCirclesSpec) :=
  OpenClaim.holds_of_wide 4 Tryz.f4 rfl rfl rfl rfl rfl rfl rfl ⟨rfl, rfl, rfl, rfl, rfl⟩ rfl rfl rfl rfl rfl (by kernel_rfl) Tryz.func4 (by kernel_rfl)
    (of_decide_eq_true (by kernel_rfl)) (by unfold Func.isWrapper; first | (rw [if_pos (by decide +kernel)]; kernel_rfl) | (rw [if_neg (by decide +kernel)]; exact ⟨rfl, rfl⟩))
    (fun os started H enc _ => lifted os started H enc)

theorem proved : Rows.CheckCirclesCardSaid :=
  Claim7.holds_tied_plain_at .later [] [.data, .data, .pinned] true (true, "344d43ccb330f5c9bfa6b815fba73f3813ab96e83cb29d99768c0348247aab23") false over (fun _ h => by cases h) (by kernel_rfl) (fun _ h => by cases h) checkCircles_row_tie rfl ⟨rfl, rfl⟩ (by kernel_rfl) rfl
    (fun f fn hf hfn => by
      obtain rfl : f = 4 := Option.some.inj ((show Tryz.prog.funcNamed Rows.checkCirclesRow.func = some 4 by kernel_rfl).symm.trans hf) |>.symm
      obtain rfl : fn = Tryz.f4 := (Option.some.inj (Tryz.func4.symm.trans hfn)).symm
      exact ⟨by kernel_rfl, fun j t ht => by
        rw [Tryz.params4] at ht
        have hm : t ∈ [3] := by simpa using Array.mem_of_getElem? ht
        have hall : ([3].all fun u => !Tryz.prog.wantsStandIn u) = true := by kernel_rfl
        exact (show Tryz.prog.wantsStandIn t = false by simpa using List.all_eq_true.1 hall t hm)⟩)
    (by kernel_rfl)
#print axioms proved
end Go.Proofs.YtnecapmnbaemiaaGreatDoor.checkCircles
