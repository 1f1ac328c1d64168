/-
  Proved: the law 'scholium/scholiumlaw14.CheckNames' returns true for every input, and every argument reads as it did before. No conditions.
-/
import Derived.Test.YtcnnbbgfmilblaaRows
import Derived.Test.YtcnnbbgfmilblaaMM
import Derived.Test.YtcnnbbgfmilblaaMH
import Derived.WalkKit
import Derived.ProofKit
import Derived.OpenShut
import Derived.ShutString
import Derived.ChangeOld
import Derived.Below
namespace Go.Proofs.Ytcnnbbgfmilblaa.checkNames
open Go.ChangeShapes Go.WideShapes Go.ChangeAt Go.RowKit
open Go.ChangeMaps (open_string shut_string)
set_option linter.unusedVariables false

theorem own : ownKnob Try.prog.godebug = none := by kernel_rfl
theorem laidOut : laidOutB Try.prog = true := by kernel_rfl

/-- A slice of integers that came in. -/
def IsRow (k : IntKind) (w : World) (a : Option Addr) (len cap : Nat) (zs : List Int) : Prop :=
  (a = none ∧ len = 0 ∧ cap = 0 ∧ zs = []) ∨
  ∃ x, a = some x ∧ len ≤ cap ∧ cap ≤ maxLen ∧ zs.length = cap ∧ (∀ i, i < zs.length → w.cell? (x.add i) = some (.int k (zs.getD i 0))) ∧ ∀ n ∈ zs, (Lit.int k n).wf = true

set_option linter.unusedSimpArgs false
set_option maxRecDepth 100000
set_option maxHeartbeats 16000000
theorem row_num {w : World} {a : Option Addr} {len cap : Nat} {zs : List Int} (h : IsRow .i64 w a len cap zs) : NumIn w a len ∧ len ≤ cap ∧ cap ≤ 9223372036854775807 := by
  rcases h with ⟨rfl, rfl, rfl, rfl⟩ | ⟨x, rfl, h1, h2, h3, h4, h5⟩
  · exact ⟨fun h => by omega, by omega, by omega⟩
  · unfold maxLen at h2
    refine ⟨fun h0 => ?_, h1, by omega⟩
    have hc0 := h4 0 (by omega)
    obtain ⟨b, off, spot⟩ := x
    have hspot : spot = none := by simpa [Addr.add] using World.cell?_spot hc0
    subst hspot
    refine ⟨b, off, rfl, fun k hk => ?_⟩
    have hc := h4 k (by omega)
    rw [add_plain] at hc
    have hw := h5 _ (List.mem_of_getElem? (getD_at (zs := zs) (k := k) (by omega)))
    exact ⟨_, hc, bounds_i64 hw⟩
theorem walk (a0 : Value) (a1 : Option Addr) (len1 cap1 : Nat) (z1 : List Int) (w : World) (w0 : IsPlan w a0) (w1 : IsRow .i64 w a1 len1 cap1 z1) :
    Calls Try.prog 12 #[a0, .slice a1 len1 cap1] w fun e w' => e = .returned (.bool true) ∧ Below w.heap.size w w' := by
  obtain ⟨A1, n1, c1, A2, n2, c2, rfl, hp⟩ := w0
  obtain ⟨hm, hm1, hm2⟩ := row_num w1
  clear w1
  have HP := Lib.hid (And.intro hp hm)
  clear hp hm
  obtain ⟨W0, hW0⟩ : ∃ W0, w.alloc (.cells #[.slice A1 n1 c1, .slice A2 n2 c2] 25) = W0 := ⟨_, rfl⟩
  have HB0 : Hid (Below w.heap.size w W0) := by show Below _ _ _; rw [← hW0]; exact (Below.refl _ _).alloc (Nat.le_refl _) _
  have pq0 : W0.cell? ⟨w.heap.size, 0, none⟩ = some (.slice A1 n1 c1) := by rw [← hW0, World.cell?_alloc_mark]; rfl
  have pq1 : W0.cell? ⟨w.heap.size, 1, none⟩ = some (.slice A2 n2 c2) := by rw [← hW0, World.cell?_alloc_mark]; rfl
  go_enter Try.func12, Try.ntmps12
  go_wp2_with fail
  clear hW0 pq0 pq1
  refine (cktree_at HP.out.1 HP.out.2 hm1 hm2 HB0.out).mono ?_
  rintro e W1 ⟨g, n, cap, l, E, rfl, hn0, hnl, hnc, hcm, hgl, hge, htx, hbb⟩
  have HB1 := Lib.hid (below_step HB0.out hbb)
  have HF := Lib.hid (And.intro hgl (And.intro (hge.small (by rw [hgl.len]; omega)) (And.intro htx hge)))
  clear hgl hge htx hbb HP HB0 hm1 hm2
  have HC := Lib.hid (check_at HF.out.1 HF.out.2.2.1 HF.out.2.1 (by omega))
  obtain ⟨Q, hQ⟩ : ∃ z, ckF l = z := ⟨_, rfl⟩
  rw [hQ] at HC
  obtain ⟨q1, q2⟩ := Q
  simp only at HC
  have HQ1 : Hid ((ckF l).1 = q1) := by show _ = _; rw [hQ]
  clear hQ
  go_wp2_with fail
  refine HC.out.mono ?_
  clear HC
  rintro e W2 ⟨rfl, hb⟩
  have HB2 := Lib.hid (And.intro (below_step HB1.out hb) hb)
  clear hb
  have HCT := Lib.hid (targets_at (HF.out.1.below HB2.out.2) HF.out.2.2.1 (by omega))
  go_wp2_with fail
  refine HCT.out.mono ?_
  clear HCT
  rintro e W3 ⟨BT, mT, rfl, hBT, hmT, hT, hb⟩
  have HB3 := Lib.hid (And.intro (below_step HB2.out.1 hb) (below_step HB2.out.2 hb))
  have HT := Lib.hid hT
  clear hb hT hBT hmT
  have HCA := Lib.hid (anchors_at (HF.out.1.below HB3.out.2) HF.out.2.2.1 (by omega))
  go_wp2_with fail
  refine HCA.out.mono ?_
  clear HCA
  rintro e W4 ⟨BA, mA, rfl, hBA, hmA, hA, hb⟩
  have HB4 := Lib.hid (And.intro (below_step HB3.out.1 hb) (And.intro (below_step HB3.out.2 hb) (HT.out.below hb)))
  obtain ⟨r0, hr0⟩ : ∃ z, W4.heap.size = z := ⟨_, rfl⟩
  obtain ⟨W5, cnt0, hrun, hrg, hb5⟩ := run_rangeS hA
  rw [hr0] at hrun hrg
  have HRG := Lib.hid hrg
  have HS0 : Hid (W1.heap.size ≤ r0 ∧ w.heap.size ≤ r0 ∧ W4.heap.size ≤ r0 ∧ W4.heap.size ≤ W5.heap.size) := ⟨by rw [← hr0]; exact HB4.out.2.1.size, by rw [← hr0]; exact HB4.out.1.size, by omega, hb5.size⟩
  have HB5 : Hid (Below w.heap.size w W5 ∧ Below W4.heap.size W4 W5) := ⟨below_step HB4.out.1 hb5, hb5⟩
  clear hb hA hBA hmA hb5 hrg hr0
  go_wp2_with fail
  clear hrun
  go_loopw [4] (fun r V => r = .bool false ∧ ∃ cnt : Nat, Hid (RngS V BA r0 (ancF l) cnt ∧ Below w.heap.size w V ∧ Below W4.heap.size W4 V)) (fun _ V => V.rangeLeft BA r0)
  case atStart => exact ⟨rfl, _, HRG.out, HB5.out⟩
  case round =>
    obtain ⟨rfl, cnt, HK⟩ := hrel
    obtain ⟨V, hV⟩ : ∃ x, x = wr := ⟨_, rfl⟩
    subst hV
    have HRK := Lib.hid HK.out.1
    have HBK := Lib.hid HK.out.2
    clear HK
    go_upto_region 7 with (at_next; refine next_S rfl (.tmp 29) rfl BA r0 (ancF l) cnt rfl HRK ?_ (fun s c V3 HN hen => ?_))
    · clear HRK HRG HB5 HS0
      obtain ⟨r1, hr1⟩ : ∃ z, V.heap.size = z := ⟨_, rfl⟩
      obtain ⟨W6, cnt1, hrun, hrg, hb6⟩ := run_rangeI (HB4.out.2.2.below HBK.out.2)
      rw [hr1] at hrun hrg
      have HRG := Lib.hid hrg
      have HS1 : Hid (W4.heap.size ≤ r1 ∧ w.heap.size ≤ r1) := ⟨by rw [← hr1]; exact HBK.out.2.size, by rw [← hr1]; exact HBK.out.1.size⟩
      have HB6 : Hid (Below w.heap.size w W6 ∧ Below W4.heap.size W4 W6) := ⟨below_step HBK.out.1 hb6, below_step HBK.out.2 hb6⟩
      clear hb6 hrg hr1
      go_wp2_with fail
      rw [hrun]
      clear hrun
      go_simp
      go_wp2_with fail
      go_loopw [4] (fun r U => r = .bool false ∧ ∃ cnt : Nat, Hid (RngI U BT r1 (tgtF l n) cnt ∧ Below w.heap.size w U ∧ Below W4.heap.size W4 U)) (fun _ U => U.rangeLeft BT r1)
      case atStart => exact ⟨rfl, _, HRG.out, HB6.out⟩
      case round =>
        obtain ⟨rfl, cnt2, HK⟩ := hrel
        obtain ⟨U, hU⟩ : ∃ x, x = wr := ⟨_, rfl⟩
        subst hU
        have HRK := Lib.hid HK.out.1
        have HBU := Lib.hid HK.out.2
        clear HK
        go_upto_region 12 with (at_next; refine next_I rfl (.tmp 53) rfl BT r1 (tgtF l n) cnt2 rfl HRK ?_ (fun s c V3 HN hen => ?_))
        · clear HRK HRG HB6 HS1
          go_wp2_with fail
          go_loopw [14, 107] (fun u v V => ∃ t : Nat, t ≤ n ∧ u = .int .i64 ((alN (l.take t) : Nat) : Int) ∧ v = .int .i64 (t : Int) ∧ Hid (Below w.heap.size w V ∧ Below W4.heap.size W4 V)) (fun _ v _ => n - (intOf v).toNat)
          case atStart => exact ⟨0, Nat.zero_le _, by rw [List.take_zero]; rfl, rfl, HBU.out⟩
          case round =>
            obtain ⟨t, ht, rfl, rfl, HV⟩ := hrel
            obtain ⟨T, hT⟩ : ∃ z, z = wr := ⟨_, rfl⟩
            subst hT
            by_cases hlt : t < n
            · have dt : (t : Int) < (n : Int) := by omega
              obtain ⟨x, hx⟩ : ∃ z, l[t]? = some z := ⟨l[t]'(by rw [HF.out.1.len]; exact hlt), List.getElem?_eq_getElem _⟩
              obtain ⟨g1, o1, eA, K1, c1, a1, a2, a3, a4, a5⟩ := (HF.out.1.below (below_step HB4.out.2.1 HV.out.2)).at_ t x hx
              injection eA with eA
              injection eA with e1 e2
              subst e1 e2
              have x0 := a5 0 _ rfl
              rw [Nat.add_zero, Nat.zero_add] at x0
              have hst := alN_take hx
              have hbd := Nat.le_trans (alN_le (l.take t)) (List.length_take_le t l)
              obtain ⟨kd, hkd⟩ : ∃ z, x.kind = z := ⟨_, rfl⟩
              rw [hkd] at x0 hst
              obtain ⟨s, hs⟩ : ∃ z, alN (l.take t) = z := ⟨_, rfl⟩
              rw [hs] at hst hbd
              rw [hs]
              have HS := Lib.hid hst
              clear hst a4 a5 hs hkd hx
              by_cases h4 : kd = 4
              · subst h4
                go_wp2_with fail
                go_roundw
                case rel => exact ⟨t + 1, by omega, by rw [HS.out, if_pos rfl]; go_num, by go_num, HV.out⟩
                case measure => simp [intOf]; omega
              · have h4' : (kd == 4) = false := beq_eq_false_iff_ne.2 h4
                go_wp2_with fail
                go_roundw
                case rel => exact ⟨t + 1, by omega, by rw [HS.out, if_neg h4], by go_num, HV.out⟩
                case measure => simp [intOf]; omega
            · obtain rfl : t = n := by omega
              rw [List.take_of_length_le (by rw [HF.out.1.len]; exact Nat.le_refl _)]
              by_cases hq : q1 = 0
              · have hlen := lenT (HB4.out.2.2.below HV.out.2) HF.out.1.len (by rw [HQ1.out]; exact hq) 3
                obtain ⟨al, hal⟩ : ∃ z, alN l = z := ⟨_, rfl⟩
                rw [hal] at hlen
                rw [hal]
                subst hq
                go_wp2_with fail
                refine (cwakes_at T).mono ?_
                rintro e Z1 ⟨rfl, hz1⟩
                have HZ1 := Lib.hid (below_step HV.out.1 hz1)
                clear hz1
                go_wp2_with fail
                go_ret
                exact ⟨rfl, HZ1.out⟩
              · have hq' : (q1 != 0) = true := bne_iff_ne.2 hq
                go_wp2_with fail
                refine (cwakes_at T).mono ?_
                rintro e Z1 ⟨rfl, hz1⟩
                have HZ1 := Lib.hid (below_step HV.out.1 hz1)
                clear hz1
                go_wp2_with fail
                go_ret
                exact ⟨rfl, HZ1.out⟩
        · obtain ⟨hok, ⟨cnt', hrg', hlt'⟩, hgr⟩ := HN.out
          have HB7 : Hid (Below w.heap.size w V3 ∧ Below W4.heap.size W4 V3) := ⟨HBU.out.1.grown hgr HBU.out.1.size (fun b hb => by injection hb with hb; have := HS1.out; omega), HBU.out.2.grown hgr HBU.out.2.size (fun b hb => by injection hb with hb; have := HS1.out; omega)⟩
          have HRG3 := Lib.hid hrg'
          have HLT := Lib.hid (And.intro hlt' HRK.out.left)
          clear hrg' hlt' hgr HN
          obtain ⟨i, j, x, y, rfl, rfl, hx, hy, hk, hya, hin, hjn⟩ := tgt_some HF.out.1.len (by omega) hok
          have HOK : Hid (q1 = 0 → j < i) := fun h0 => by
            obtain ⟨c, hc, hci⟩ := ck0_al (by rw [HQ1.out]; exact h0) hx hk
            have : tgtF l n (i : Int) = some c := by
              unfold tgtF
              rw [Int.toNat_natCast, hx]
              simp only
              rw [if_pos ⟨by omega, by omega, hk⟩, hc]
            rw [hok] at this
            injection this with this
            omega
          have HGX := Lib.hid (HF.out.1.below (below_step HB4.out.2.1 HB7.out.2))
          obtain ⟨gA, oA, eA, K1, c1, a1, a2, a3, a4, a5⟩ := HGX.out.at_ i x hx
          injection eA with eA
          injection eA with e1 e2
          subst e1 e2
          obtain ⟨gB, oB, eB, K2, c2', b1, b2, b3, b4, b5⟩ := HGX.out.at_ j y hy
          injection eB with eB
          injection eB with e1 e2
          subst e1 e2
          have x0 := a5 0 _ rfl
          have x4 := a5 4 _ rfl
          have y3 := b5 3 _ rfl
          rw [Nat.zero_add] at x0 x4 y3
          rw [Nat.add_zero, hk] at x0
          rw [hya] at y3
          obtain ⟨vl, hvl⟩ : ∃ z, x.value = z := ⟨_, rfl⟩
          rw [hvl] at x4 y3
          have di0 : decide ((i : Int) < 0) = false := decide_eq_false (by omega)
          have din : (i : Int) < (n : Int) := by omega
          have din2 : decide ((n : Int) ≤ (i : Int)) = false := decide_eq_false (by omega)
          have din3 : ¬ (n : Int) ≤ (i : Int) := by omega
          have dj0 : decide ((j : Int) < 0) = false := decide_eq_false (by omega)
          have djn : (j : Int) < (n : Int) := by omega
          have djn2 : decide ((n : Int) ≤ (j : Int)) = false := decide_eq_false (by omega)
          have djn3 : ¬ (n : Int) ≤ (j : Int) := by omega
          clear hok hx hy hk hya a1 a2 a3 a4 a5 b1 b2 b3 b4 b5 hvl HGX
          go_wp2_with fail
          go_quiet (fail)
          obtain ⟨V4, hV4⟩ : ∃ z, V3.drewN nq = z := ⟨_, rfl⟩
          have HD : Hid (RngI V4 BT r1 (tgtF l n) cnt' ∧ Below w.heap.size w V4 ∧ Below W4.heap.size W4 V4) := by show _ ∧ _ ∧ _; rw [← hV4]; exact ⟨HRG3.out.below (below_drewN (Below.refl _ _) nq), below_drewN HB7.out.1 nq, below_drewN HB7.out.2 nq⟩
          clear x0 x4 y3
          rw [hV4]
          clear hV4
          by_cases hq : q1 = 0
          · have hji : ¬ (i : Int) ≤ (j : Int) := by have := HOK.out hq; omega
            have hji2 : decide ((i : Int) ≤ (j : Int)) = false := decide_eq_false hji
            subst hq
            go_wp2_with fail
            refine And.intro ⟨rfl, cnt', HD.out⟩ ?_
            rw [HD.out.1.left, HLT.out.2]; exact HLT.out.1
          · have hq' : (q1 == 0) = false := beq_eq_false_iff_ne.2 hq
            go_wp2_with fail
            refine And.intro ⟨rfl, cnt', HD.out⟩ ?_
            rw [HD.out.1.left, HLT.out.2]; exact HLT.out.1
    · obtain ⟨hok, ⟨cnt', hrg', hlt'⟩, hgr⟩ := HN.out
      have HB6 : Hid (Below w.heap.size w V3 ∧ Below W4.heap.size W4 V3) := ⟨HBK.out.1.grown hgr HBK.out.1.size (fun b hb => by injection hb with hb; have := HS0.out; omega), HBK.out.2.grown hgr HBK.out.2.size (fun b hb => by injection hb with hb; have := HS0.out; omega)⟩
      have HRG3 := Lib.hid hrg'
      have HLT := Lib.hid (And.intro hlt' HRK.out.left)
      clear hrg' hlt' hgr HN
      obtain ⟨_, hc0, hcn, _, x, hx, hxa⟩ := ancF_wf hok (by rw [HF.out.1.len]; omega)
      rw [HF.out.1.len] at hcn
      obtain ⟨j, rfl⟩ := Int.eq_ofNat_of_zero_le hc0
      rw [Int.toNat_natCast] at hx
      obtain ⟨gA, oA, eA, K1, c1, a1, a2, a3, a4, a5⟩ := (HF.out.1.below (below_step HB4.out.2.1 HB6.out.2)).at_ j x hx
      injection eA with eA
      injection eA with e1 e2
      subst e1 e2
      have x3 := a5 3 _ rfl
      rw [Nat.zero_add, hxa] at x3
      have dj0 : decide ((j : Int) < 0) = false := decide_eq_false (by omega)
      have djn : (j : Int) < (n : Int) := hcn
      have djn2 : decide ((n : Int) ≤ (j : Int)) = false := decide_eq_false (by omega)
      have djn3 : ¬ (n : Int) ≤ (j : Int) := by omega
      have djn4 : j < n := by omega
      clear hok hx hxa a1 a2 a3 a4 a5 hc0 hcn
      go_wp2_with fail
      go_roundw
      case rel => exact ⟨rfl, cnt', HRG3.out, HB6.out⟩
      case measure => rw [HRG3.out.left, HLT.out.2]; exact HLT.out.1


set_option maxRecDepth 100000 in
theorem lifted (os : Os) (started : os.Started) (H : Type) (enc : TypeId × Value → H) :
    ReturnsInHanded {} Try.checked os 12 .any (Rows.checkNamesSpec.pre6 enc Try.prog Try.f12 Rows.checkNamesRow.domain false) (Rows.checkNamesSpec.post enc Try.prog Try.f12 false true false false) := by
  refine returnsInHanded_of_change (C := Try.checked) own started (by kernel_rfl) Try.func12
    (ChangeSpec.witness6 (enc := enc) (C := Try.checked) false ⟨#[], #[.agg #[.slice none 0 0, .slice none 0 0], .slice none 0 0], []⟩ 8 (by kernel_rfl) (by kernel_rfl) (by kernel_rfl) (by kernel_rfl)) ?_
  intro W base args ds gs before hval0 hW hcnd _
  have hval : ∀ (j : Nat) t v, Try.f12.params[j]? = some t → args[j]? = some v → Value.okWide Try.prog W .any base t v := hval0
  have hW' := hW
  obtain ⟨p, q, hA0, hV, rfl, hfz, hnd⟩ := hW
  have hA : DataW.TrodAll enc Try.prog W 0 (fun _ => true) true Try.f12.params.toList args.toList ds p := hA0
  rw [Try.params12] at hA hval
  obtain ⟨v0, vs0, d0, ds0, p0, q0, hargs, rfl, rfl, h0, r0⟩ := trodAll_cons hA
  obtain ⟨v1, vs1, d1, ds1, p1, q1, rfl, rfl, rfl, h1, r1⟩ := trodAll_cons r0
  obtain ⟨rfl, rfl, rfl⟩ := trodAll_nil r1
  obtain rfl : args = #[v0, v1] := by cases args; simp_all
  obtain ⟨rfl, rfl⟩ := trodVars_none hV
  have k0 := h0
  have lt0 : ∀ x ∈ p0, x.block < W.heap.size := by obtain ⟨m, hm⟩ := k0; exact DataW.trod_lt m _ _ _ hm
  have w0 := open_plan (hval 0 25 v0 rfl rfl) h0
  obtain ⟨a1, len1, cap1, rfl⟩ := okWide_slice Try.underlying22 (hval 1 22 v1 rfl rfl)
  have k1 := h1
  have lt1 : ∀ x ∈ p1, x.block < W.heap.size := by obtain ⟨m, hm⟩ := k1; exact DataW.trod_lt m _ _ _ hm
  obtain ⟨z1, w1⟩ : ∃ zs, IsRow .i64 W a1 len1 cap1 zs := by
    obtain ⟨fuel, hf⟩ := h1
    rcases open_ints Try.underlying22 Try.underlying3 (by kernel_rfl) hf with ⟨hcs, _⟩ | ⟨x, l, c, zs, hcs, _, hl, hm, hz, _, hcell, hwz⟩
    · simp [Value.cells] at hcs
      obtain ⟨rfl, rfl, rfl⟩ := hcs
      exact ⟨[], .inl ⟨rfl, rfl, rfl, rfl⟩⟩
    · simp [Value.cells] at hcs
      obtain ⟨rfl, rfl, rfl⟩ := hcs
      exact ⟨zs, .inr ⟨_, rfl, hl, hm, by simpa using hz, hcell, hwz⟩⟩
  clear hA0 hval0
  refine (walk v0 a1 len1 cap1 z1 W w0 w1).mono fun e W' ⟨he, bel⟩ => ?_
  subst he
  exact ⟨_, rfl, _, _, _, [], _, [], hW', trodAll_mk1 (shut_bool Try.underlying4 _), (trodAll_cons_mk (Below.trod laidOut (by kernel_rfl) (of_decide_eq_true (by kernel_rfl)) k0 bel lt0) (trodAll_cons_mk (Below.trod laidOut (by kernel_rfl) (of_decide_eq_true (by kernel_rfl)) k1 bel lt1) trodAll_mk0)), rfl, bel.frame _, fun h => by cases h⟩

theorem over : Rows.checkNamesRow.holds Try.pinned (OpenSpec.ofChange Rows.checkNamesSpec) :=
  OpenClaim.holds_of_wide 12 Try.f12 rfl rfl rfl rfl rfl rfl rfl ⟨rfl, rfl, rfl, rfl, rfl⟩ rfl rfl rfl rfl rfl (by kernel_rfl) Try.func12 (by kernel_rfl)
    (of_decide_eq_true (by kernel_rfl)) (by unfold Func.isWrapper; first | (rw [if_pos (by decide +kernel)]; kernel_rfl) | (rw [if_neg (by decide +kernel)]; exact ⟨rfl, rfl⟩))
    (fun os started H enc _ => lifted os started H enc)

theorem proved : Rows.CheckNamesSaid := over
#print axioms proved
end Go.Proofs.Ytcnnbbgfmilblaa.checkNames
