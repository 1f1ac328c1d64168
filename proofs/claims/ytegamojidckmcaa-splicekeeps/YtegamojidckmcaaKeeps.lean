/-
  Proved: the law 'scholium/scholiumlaw03.SpliceKeeps' returns true for every input, and every argument reads as it did before. No conditions.
-/
import Derived.Test.YtegamojidckmcaaRows
import Derived.Test.YtegamojidckmcaaSpFacts
import Derived.WalkKit
import Derived.ProofKit
import Derived.OpenShut
import Derived.ShutString
import Derived.ChangeOld
import Derived.Below
namespace Go.Proofs.Ytegamojidckmcaa.spliceKeeps
open Go.ChangeShapes Go.WideShapes Go.ChangeAt Go.RowKit
open Go.ChangeMaps (open_string shut_string)
set_option linter.unusedVariables false

theorem own : ownKnob Try.prog.godebug = none := by kernel_rfl
theorem laidOut : laidOutB Try.prog = true := by kernel_rfl

/-- A slice of integers that came in. -/
def IsRow (k : IntKind) (w : World) (a : Option Addr) (len cap : Nat) (zs : List Int) : Prop :=
  (a = none ∧ len = 0 ∧ cap = 0 ∧ zs = []) ∨
  ∃ x, a = some x ∧ len ≤ cap ∧ cap ≤ maxLen ∧ zs.length = cap ∧ (∀ i, i < zs.length → w.cell? (x.add i) = some (.int k (zs.getD i 0))) ∧ ∀ n ∈ zs, (Lit.int k n).wf = true

def anyIn (o : Int) (l : List Sp) : Bool := l.any fun x => decide (x.f ≤ o) && decide (o < x.t)
theorem anyIn_take {o : Int} {l : List Sp} {k : Nat} (h : k < l.length) : anyIn o (l.take (k + 1)) = (anyIn o (l.take k) || (decide ((spAt l k).f ≤ o) && decide (o < (spAt l k).t))) := by
  have e : l.take (k + 1) = l.take k ++ [spAt l k] := by
    rw [List.take_add_one, spAt_some h]; rfl
  rw [e]; simp [anyIn]
theorem anyIn_map {n : Int} {l : List Sp} (o m : Int) (hv : validF n 0 l = true) : anyIn o l = (mapF o m l).isNone := by
  rw [Bool.eq_iff_iff]
  have := map_none o m hv
  constructor
  · intro h
    simp only [anyIn, List.any_eq_true, Bool.and_eq_true, decide_eq_true_eq] at h
    rw [this.2 h]; rfl
  · intro h
    have h' : mapF o m l = none := by simpa using h
    have := this.1 h'
    simp only [anyIn, List.any_eq_true, Bool.and_eq_true, decide_eq_true_eq]
    exact this

set_option maxHeartbeats 8000000 in
set_option maxRecDepth 100000 in
theorem walk (a0 : Option Addr) (len0 cap0 : Nat) (z0 : List Int) (a1 : Option Addr) (len1 cap1 : Nat) (z1 : List Sp) (w : World) (w0 : IsRow .u8 w a0 len0 cap0 z0) (w1 : IsSps w a1 len1 cap1 z1) :
    Calls Try.prog 6 #[.slice a0 len0 cap0, .slice a1 len1 cap1] w fun e w' => e = .returned (.bool true) ∧ Below w.heap.size w w' := by
  obtain ⟨hrd, hby, hlen, hnc, hm, hA⟩ := isRow_rd w0
  obtain ⟨hsl, hsr, hs64, hsc, hsm, hsA⟩ := w1
  clear w0
  generalize z0.take len0 = ys at *
  have HS := Lib.hid (And.intro hsl (And.intro hsr (And.intro hs64 hsA)))
  have HRD := Lib.hid (And.intro hrd (And.intro hlen hA))
  clear hrd hby hlen hA hsl hsr hs64 hsA
  go_enter Try.func6, Try.ntmps6
  go_wp2_with fail
  refine (cut_any a0 len0 cap0 100 ys _ HRD.out.2.1 hnc hm (by omega) HRD.out.1 HRD.out.2.2).mono ?_
  rintro e W1 ⟨A, n, cap, rfl, h1, h2, h3, h4, h5, h6⟩
  have hn : n ≤ 100 := by rw [← h1, List.length_take]; omega
  generalize ys.take 100 = zs at *
  clear HRD hnc hm
  have HZ := Lib.hid (And.intro h1 (And.intro h4 (And.intro h5 h6)))
  clear h1 h4 h5 h6
  go_wp2_with fail
  refine (splices_valid a1 len1 cap1 z1 n W1 HS.out.1 hsc hsm (HS.out.2.1.below HZ.out.2.2.2) HS.out.2.2.1 (by omega)).mono ?_
  rintro e W2 ⟨r, A2, m, cap2, rfl, g1, g2, g3, g4, g5, g6, g7, g8, g9⟩
  have g7 := g7 rfl
  subst g1
  have hb2 := below_step HZ.out.2.2.2 g9
  have hrs := RdC.own g8
  have hrb := HZ.out.2.2.1.below g9
  have HT : Hid (Texts r ∧ All64 r ∧ validF n 0 r = true) := ⟨fun x hx => by have := g5 x hx; omega, g6, g7⟩
  have hsz := small_sum hn g2 g5 g7
  have HW2 := Lib.hid (And.intro hb2 (And.intro hrs hrb))
  have HX := Lib.hid (And.intro HZ.out.1 (And.intro HZ.out.2.1 g5))
  clear g5 g6 g7 g8 g9 hb2 hrs hrb HZ HS
  go_wp2_with fail
  refine (do_good A n cap zs A2 r.length cap2 r W2 HX.out.1 h2 h3 HX.out.2.1 HW2.out.2.2 (by omega) rfl g3 g4 HT.out.2.1 HW2.out.2.1 (by omega) HT.out.1 HT.out.2.2 (by have := hsz r.length; rw [List.take_length] at this; omega)).mono ?_
  rintro e W3 ⟨A3, n3, cap3, rfl, k1, k2, k3, k4, k5, k6⟩
  have HW3 := Lib.hid (And.intro (below_step HW2.out.1 k6) (And.intro (HW2.out.2.1.below k6) (And.intro (HW2.out.2.2.below k6) (And.intro k1 (And.intro k4 k5)))))
  clear k1 k4 k5 k6 HW2
  have HBD := Lib.hid hsz
  have hsa := hsz r.length
  rw [List.take_length] at hsa
  have hl3 := do_len zs r 0 (by omega) (by rw [HX.out.1]; exact HT.out.2.2)
  rw [HX.out.1, HW3.out.2.2.2.1] at hl3
  have hn3 : (n3 : Int) = n + sumG r := by omega
  have HN3 := Lib.hid hn3
  have hn3b : n3 ≤ 1000 := by omega
  clear hsz hsa hl3 hn3
  go_wp2_with fail
  go_loopw [8, 34] (fun s i W => ∃ (k : Nat) (z : Int), k ≤ r.length ∧ i = .int .i64 (k : Int) ∧ s = .int .i64 z ∧ Hid (z = sumG (r.take k) ∧ Below W3.heap.size W3 W)) (fun _ i _ => r.length - (intOf i).toNat)
  case atStart => exact ⟨0, 0, by omega, rfl, rfl, by simp [sumG], Below.refl _ _⟩
  case round =>
    obtain ⟨k, z, hk, rfl, rfl, HK⟩ := hrel
    obtain ⟨wo, hwo⟩ : ∃ x, x = wr := ⟨_, rfl⟩
    subst hwo
    have hbk := HBD.out k
    have hbk1 := HBD.out (k + 1)
    by_cases hlt : k < r.length
    · obtain ⟨b, off, rfl, hbl, hcell⟩ := (RdS.below HW3.out.2.1 HK.out.2).addr (by omega)
      obtain ⟨c0, c1, c2⟩ := hcell k hlt
      have hvx := valid_mem HT.out.2.2 _ (spAt_mem hlt)
      have hx20 := HX.out.2.2 _ (spAt_mem hlt)
      have hst := sumG_take hlt
      generalize spAt r k = x at *
      unfold grw at hst
      have hz := HK.out.1
      have hz1 : z + ((x.s.size : Int) - (x.t - x.f)) = sumG (r.take (k + 1)) := by omega
      have hzb : -1000 ≤ z ∧ z ≤ 1000 := by omega
      have HZ1 := Lib.hid hz1
      obtain ⟨hzb1, hzb2⟩ := hzb
      obtain ⟨hv1, hv2, hv3⟩ := hvx
      have HBW := Lib.hid HK.out.2
      clear hcell hz hz1 hst HK hbk hbk1
      have dk : (k : Int) < (r.length : Int) := by omega
      go_wp2_with fail
      go_quiet (fail)
      go_wp2
      go_roundw
      case rel =>
        refine ⟨k + 1, _, by omega, by go_num, rfl, ?_, below_draws HBW.out _⟩
        rw [← HZ1.out]
      case measure => simp [intOf]; omega
    · obtain rfl : k = r.length := by omega
      have hz := HK.out.1
      rw [List.take_length] at hz hbk
      have hn3 := HN3.out
      have hz3 : z = (n3 : Int) - n := by omega
      subst hz3
      have HB4 := Lib.hid HK.out.2
      clear hz hbk hbk1 hn3 HK
      have hne : ((n3 : Int) != (n : Int) + ((n3 : Int) - n)) = false := by
        have : (n : Int) + ((n3 : Int) - n) = n3 := by omega
        rw [this]; simp
      go_wp2_with fail
      go_loopw [9, 67] (fun s i W => ∃ (k : Nat) (z : Int), k ≤ n ∧ i = .int .i64 (k : Int) ∧ s = .int .i64 z ∧ -1 ≤ z ∧ z ≤ 1000 ∧ Hid ((∀ (j : Nat) (p : Int), k ≤ j → mapF j j r = some p → z < p) ∧ Below W3.heap.size W3 W)) (fun _ i _ => n - (intOf i).toNat)
      case atStart =>
        refine ⟨0, -1, by omega, rfl, rfl, by omega, by omega, ?_, HB4.out⟩
        intro j p _ h
        have := map_low (j : Int) 0 p HT.out.2.2 (by omega) (by simpa using h)
        omega
      case round =>
        obtain ⟨k, z, hk, rfl, rfl, hz1, hz2, HK⟩ := hrel
        obtain ⟨wo, hwo⟩ : ∃ x, x = wr := ⟨_, rfl⟩
        subst hwo
        by_cases hlt : k < n
        · have hmn := anyIn_map (l := r) (k : Int) (k : Int) HT.out.2.2
          have HMN := Lib.hid hmn
          clear hmn
          obtain ⟨mo, hmo⟩ : ∃ mo, mapF (k : Int) (k : Int) r = mo := ⟨_, rfl⟩
          have HMO := Lib.hid hmo
          clear hmo
          have dk : (k : Int) < (n : Int) := by omega
          go_wp2_with fail
          refine (map_any A2 r.length cap2 r (k : Int) n wo rfl g3 g4 (RdS.below HW3.out.2.1 HK.out.2) (by omega) (by omega) HT.out.1 HT.out.2.2 (by omega) (by omega)).mono ?_
          rw [HMO.out]
          rintro e V ⟨rfl, hbv⟩
          have HBV := Lib.hid (below_step HK.out.2 hbv)
          clear hbv
          unfold mapE
          go_wp2_with fail
          go_loop [14, 78] (fun b i => ∃ q : Nat, q ≤ r.length ∧ i = .int .i64 (q : Int) ∧ b = .bool (anyIn (k : Int) (r.take q))) (fun _ i => r.length - (intOf i).toNat)
          case atStart => exact ⟨0, by omega, rfl, rfl⟩
          case round =>
            obtain ⟨q, hq, rfl, rfl⟩ := hrel
            by_cases hqt : q < r.length
            · obtain ⟨b, off, rfl, hbl, hcell⟩ := (RdS.below HW3.out.2.1 HBV.out).addr (by omega)
              obtain ⟨c0, c1, c2⟩ := hcell q hqt
              have hst := anyIn_take (o := (k : Int)) hqt
              have hx := HT.out.2.1 _ (spAt_mem hqt)
              generalize spAt r q = x at *
              obtain ⟨hx1, hx2, hx3, hx4, hx5⟩ := hx
              have HST := Lib.hid hst
              clear hst hcell
              generalize hb0 : anyIn (k : Int) (r.take q) = b0 at *
              clear hb0
              have dq : (q : Int) < (r.length : Int) := by omega
              cases b0 with
              | true =>
                go_wp2
                go_round
                case rel => exact ⟨q + 1, by omega, by go_num, by rw [HST.out]; simp⟩
                case measure => simp [intOf]; omega
              | false =>
                by_cases h1 : x.f ≤ (k : Int)
                · by_cases h2 : (k : Int) < x.t
                  · go_wp2
                    go_round
                    case rel => exact ⟨q + 1, by omega, by go_num, by rw [HST.out]; simp [h1, h2]⟩
                    case measure => simp [intOf]; omega
                  · have d2 : decide ((k : Int) < x.t) = false := decide_eq_false h2
                    go_wp2
                    go_round
                    case rel => exact ⟨q + 1, by omega, by go_num, by rw [HST.out]; simp [h2]⟩
                    case measure => simp [intOf]; omega
                · have d1 : decide (x.f ≤ (k : Int)) = false := decide_eq_false h1
                  go_wp2
                  go_round
                  case rel => exact ⟨q + 1, by omega, by go_num, by rw [HST.out]; simp [h1]⟩
                  case measure => simp [intOf]; omega
            · obtain rfl : q = r.length := by omega
              rw [List.take_length, HMN.out, HMO.out]
              cases mo with
              | none =>
                simp only [Option.getD_none, Option.isSome_none, Option.isNone_none]
                go_wp2_with fail
                go_quiet (fail)
                go_wp2
                go_roundw
                case rel => exact ⟨k + 1, z, by omega, by go_num, rfl, hz1, hz2, fun j p hj h => HK.out.1 j p (by omega) h, below_draws HBV.out _⟩
                case measure => simp [intOf]; omega
              | some p =>
                simp only [Option.getD_some, Option.isSome_some, Option.isNone_some]
                have hzp := HK.out.1 k p (Nat.le_refl _) HMO.out
                obtain ⟨j, hj, hat⟩ := map_at zs k (by rw [HX.out.1]; exact hlt) r 0 (k : Int) p (by rw [HX.out.1]; exact HT.out.2.2) (by omega) HMO.out
                have hjp : p = (j : Int) := by omega
                subst hjp
                have hjl := (List.getElem?_eq_some_iff.1 hat).1
                rw [HW3.out.2.2.2.1] at hjl
                obtain ⟨b1, off1, rfl, hc1⟩ := (HW3.out.2.2.2.2.2.below HBV.out).addr (by rw [HW3.out.2.2.2.1]; omega)
                have hcj := hc1 j (by rw [HW3.out.2.2.2.1]; exact hjl)
                obtain ⟨b2, off2, rfl, hc2⟩ := (HW3.out.2.2.1.below HBV.out).addr (by rw [HX.out.1]; omega)
                have hck := hc2 k (by rw [HX.out.1]; exact hlt)
                have he : (doF zs 0 r).getD j 0 = zs.getD k 0 := by simp [List.getD, hat]
                rw [he] at hcj
                have hmono : ∀ (j' : Nat) (p' : Int), k + 1 ≤ j' → mapF j' j' r = some p' → (j : Int) < p' := fun j' p' hjj h => map_mono (k : Int) (j' : Int) (by omega) 0 _ _ HT.out.2.2 (by omega) (by simpa using HMO.out) (by simpa using h)
                have HMONO := Lib.hid hmono
                generalize zs.getD k 0 = y at *
                have d1 : decide ((j : Int) ≤ z) = false := decide_eq_false (by omega)
                have d2 : decide ((n3 : Int) ≤ (j : Int)) = false := decide_eq_false (by omega)
                have d2' : decide (n3 ≤ j) = false := decide_eq_false (by omega)
                have d3 : (j : Int) < (n3 : Int) := by omega
                have d4 : (0 : Int) ≤ (j : Int) := by omega
                clear hc1 hc2 he hat hmono hj
                go_wp2_with fail
                go_quiet (fail)
                go_wp2
                go_roundw
                case rel => exact ⟨k + 1, (j : Int), by omega, by go_num, rfl, by omega, by omega, HMONO.out, below_draws HBV.out _⟩
                case measure => simp [intOf]; omega
        · obtain rfl : k = n := by omega
          have HBK := Lib.hid HK.out.2
          clear HK
          go_wp2_with fail
          refine (do_good A k cap zs none 0 0 [] wo HX.out.1 h2 h3 HX.out.2.1 (HW3.out.2.2.1.below HBK.out) (by omega) rfl (by omega) (by omega) (by intro x hx; simp at hx) (RdS.nil _ _) (by omega) (by intro x hx; simp at hx) rfl (by simp [sumG]; omega)).mono ?_
          rintro e V ⟨A5, n5, cap5, rfl, m1, m2, m3, m4, m5, m6⟩
          simp only [doF, List.drop_zero] at m1 m5
          obtain rfl : k = n5 := by rw [← m1, HX.out.1]
          have HV := Lib.hid (And.intro m5 (And.intro (below_step HBK.out m6) m1))
          clear m1 m4 m5 m6
          go_wp2_with fail
          refine (sameB_any A5 A k cap5 cap zs V HV.out.2.2 (by omega) m2 h2 HV.out.1 (HW3.out.2.2.1.below HV.out.2.1)).mono ?_
          rintro e V2 ⟨rfl, hb⟩
          have HB5 := Lib.hid (below_step (below_step HW3.out.1 HV.out.2.1) hb)
          clear hb
          go_wp2_with fail
          refine (wakes_any V2).mono ?_
          rintro e V3 ⟨rfl, hb⟩
          have HB6 := Lib.hid (below_step HB5.out hb)
          clear hb
          go_wp2
          go_ret
          exact ⟨rfl, HB6.out⟩


set_option maxRecDepth 100000 in
theorem lifted (os : Os) (started : os.Started) (H : Type) (enc : TypeId × Value → H) :
    ReturnsInHanded {} Try.checked os 6 .any (Rows.spliceKeepsSpec.pre6 enc Try.prog Try.f6 Rows.spliceKeepsRow.domain false) (Rows.spliceKeepsSpec.post enc Try.prog Try.f6 false true false false) := by
  refine returnsInHanded_of_change (C := Try.checked) own started (by kernel_rfl) Try.func6
    (ChangeSpec.witness6 (enc := enc) (C := Try.checked) false ⟨#[], #[.slice none 0 0, .slice none 0 0], []⟩ 8 (by kernel_rfl) (by kernel_rfl) (by kernel_rfl) (by kernel_rfl)) ?_
  intro W base args ds gs before hval0 hW hcnd _
  have hval : ∀ (j : Nat) t v, Try.f6.params[j]? = some t → args[j]? = some v → Value.okWide Try.prog W .any base t v := hval0
  have hW' := hW
  obtain ⟨p, q, hA0, hV, rfl, hfz, hnd⟩ := hW
  have hA : DataW.TrodAll enc Try.prog W 0 (fun _ => true) true Try.f6.params.toList args.toList ds p := hA0
  rw [Try.params6] at hA hval
  obtain ⟨v0, vs0, d0, ds0, p0, q0, hargs, rfl, rfl, h0, r0⟩ := trodAll_cons hA
  obtain ⟨v1, vs1, d1, ds1, p1, q1, rfl, rfl, rfl, h1, r1⟩ := trodAll_cons r0
  obtain ⟨rfl, rfl, rfl⟩ := trodAll_nil r1
  obtain rfl : args = #[v0, v1] := by cases args; simp_all
  obtain ⟨rfl, rfl⟩ := trodVars_none hV
  obtain ⟨a0, len0, cap0, rfl⟩ := okWide_slice Try.underlying23 (hval 0 23 v0 rfl rfl)
  have k0 := h0
  have lt0 : ∀ x ∈ p0, x.block < W.heap.size := by obtain ⟨m, hm⟩ := k0; exact DataW.trod_lt m _ _ _ hm
  obtain ⟨z0, w0⟩ : ∃ zs, IsRow .u8 W a0 len0 cap0 zs := by
    obtain ⟨fuel, hf⟩ := h0
    rcases open_ints Try.underlying23 Try.underlying5 (by kernel_rfl) hf with ⟨hcs, _⟩ | ⟨x, l, c, zs, hcs, _, hl, hm, hz, _, hcell, hwz⟩
    · simp [Value.cells] at hcs
      obtain ⟨rfl, rfl, rfl⟩ := hcs
      exact ⟨[], .inl ⟨rfl, rfl, rfl, rfl⟩⟩
    · simp [Value.cells] at hcs
      obtain ⟨rfl, rfl, rfl⟩ := hcs
      exact ⟨zs, .inr ⟨_, rfl, hl, hm, by simpa using hz, hcell, hwz⟩⟩
  obtain ⟨a1, len1, cap1, rfl⟩ := okWide_slice Try.underlying29 (hval 1 29 v1 rfl rfl)
  have k1 := h1
  have lt1 : ∀ x ∈ p1, x.block < W.heap.size := by obtain ⟨m, hm⟩ := k1; exact DataW.trod_lt m _ _ _ hm
  obtain ⟨z1, w1⟩ := open_splices h1
  clear hA0 hval0
  refine (walk a0 len0 cap0 z0 a1 len1 cap1 z1 W w0 w1).mono fun e W' ⟨he, bel⟩ => ?_
  subst he
  exact ⟨_, rfl, _, _, _, [], _, [], hW', trodAll_mk1 (shut_bool Try.underlying4 _), (trodAll_cons_mk (Below.trod laidOut (by kernel_rfl) (of_decide_eq_true (by kernel_rfl)) k0 bel lt0) (trodAll_cons_mk (Below.trod laidOut (by kernel_rfl) (of_decide_eq_true (by kernel_rfl)) k1 bel lt1) trodAll_mk0)), rfl, bel.frame _, fun h => by cases h⟩

theorem over : Rows.spliceKeepsRow.holds Try.pinned (OpenSpec.ofChange Rows.spliceKeepsSpec) :=
  OpenClaim.holds_of_wide 6 Try.f6 rfl rfl rfl rfl rfl rfl rfl ⟨rfl, rfl, rfl, rfl, rfl⟩ rfl rfl rfl rfl rfl (by kernel_rfl) Try.func6 (by kernel_rfl)
    (of_decide_eq_true (by kernel_rfl)) (by unfold Func.isWrapper; first | (rw [if_pos (by decide +kernel)]; kernel_rfl) | (rw [if_neg (by decide +kernel)]; exact ⟨rfl, rfl⟩))
    (fun os started H enc _ => lifted os started H enc)

theorem proved : Rows.SpliceKeepsSaid := over
#print axioms proved
end Go.Proofs.Ytegamojidckmcaa.spliceKeeps
