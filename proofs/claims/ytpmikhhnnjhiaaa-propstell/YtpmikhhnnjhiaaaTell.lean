/-
  Proved: the law 'scholium/scholiumlaw10.PropsTell' returns true for every input, and every argument reads as it did before. No conditions.
-/
import Derived.Test.YtpmikhhnnjhiaaaRows
import Derived.Test.YtpmikhhnnjhiaaaPrText
import Derived.Test.YtpmikhhnnjhiaaaKeep
import Derived.WalkKit
import Derived.ProofKit
import Derived.OpenShut
import Derived.ShutString
import Derived.ChangeOld
import Derived.Below
namespace Go.Proofs.Ytpmikhhnnjhiaaa.propsTell
open Go.ChangeShapes Go.WideShapes Go.ChangeAt Go.RowKit
open Go.ChangeMaps (open_string shut_string)
set_option linter.unusedVariables false

theorem own : ownKnob Try.prog.godebug = none := by kernel_rfl
theorem laidOut : laidOutB Try.prog = true := by kernel_rfl

/-- A slice of integers that came in. -/
def IsRow (k : IntKind) (w : World) (a : Option Addr) (len cap : Nat) (zs : List Int) : Prop :=
  (a = none ∧ len = 0 ∧ cap = 0 ∧ zs = []) ∨
  ∃ x, a = some x ∧ len ≤ cap ∧ cap ≤ maxLen ∧ zs.length = cap ∧ (∀ i, i < zs.length → w.cell? (x.add i) = some (.int k (zs.getD i 0))) ∧ ∀ n ∈ zs, (Lit.int k n).wf = true

set_option maxHeartbeats 4000000 in
set_option maxRecDepth 100000 in
theorem walk (a0 : ByteArray) (a1 : Option Addr) (len1 cap1 : Nat) (z1 : List Int) (a2 : Bool) (a3 : ByteArray) (a4 : ByteArray) (w : World) (w0 : a0.size ≤ maxLen) (w1 : IsRow .i64 w a1 len1 cap1 z1) (w3 : a3.size ≤ maxLen) (w4 : a4.size ≤ maxLen) :
    Calls Try.prog 5 #[.string a0, .slice a1 len1 cap1, .bool a2, .string a3, .string a4] w fun e w' => e = .returned (.bool true) ∧ Below w.heap.size w w' := by
  have HT := Lib.hid (txt_any a0 a1 len1 cap1 z1 a2 w w0 w1)
  clear w0 w1
  go_enter Try.func5, Try.ntmps5
  go_wp2_with fail
  refine HT.out.mono ?_
  rintro e W0 ⟨t, ht, rfl, hb⟩
  have HB0 := Lib.hid hb
  clear hb HT
  obtain ⟨cap, W1, B⟩ := bytes_of t (by omega) W0
  have hrun := B.run
  have hcap := B.le
  have hcapm := B.max
  have HRB := Lib.hid B.rd
  have HB1 := Lib.hid (below_step HB0.out B.below)
  obtain ⟨g1, hg1⟩ : ∃ g, W0.heap.size = g := ⟨_, rfl⟩
  rw [hg1] at hrun HRB
  clear B HB0 hg1
  have HLN := Lib.hid (byt_len t)
  have HBY := Lib.hid (byt_byte t)
  obtain ⟨n, hn⟩ : ∃ n, t.size = n := ⟨_, rfl⟩
  rw [hn] at hrun hcap ht HLN
  go_wp2_with fail
  refine (lend_any (some ⟨g1, 0, none⟩) n cap (byt t) W1 HLN.out (by omega) HRB.out).mono ?_
  rintro e W2 ⟨rfl, hown, hb2⟩
  rw [HLN.out]
  obtain ⟨g2, hg2⟩ : ∃ g, W1.heap.size = g := ⟨_, rfl⟩
  rw [hg2] at hown ⊢
  have HOWN := Lib.hid hown
  have HB2 := Lib.hid (below_step HB1.out hb2)
  have HRB2 := Lib.hid (HRB.out.below hb2)
  clear hown hb2 hg2 HRB HB1 hrun
  go_wp2_with fail
  refine (take_any (some ⟨g2, 0, none⟩) n (n + 3) (byt t) W2 HLN.out (by omega) (by omega) (fun h => by cases h) HBY.out (lnd_rd HOWN.out)).mono ?_
  rintro e W3 ⟨t1, p1, ht1, hp1, rfl, hb3⟩
  obtain ⟨k, hk⟩ : ∃ k, (takeP (byt t)).2.2.1 = k := ⟨_, rfl⟩
  obtain ⟨ok, hok⟩ : ∃ ok, (takeP (byt t)).2.2.2 = ok := ⟨_, rfl⟩
  rw [hk, hok]
  have HT1 := Lib.hid ht1
  have HP1 := Lib.hid hp1
  have HK := Lib.hid hk
  have HOK := Lib.hid hok
  obtain ⟨X3, hX3⟩ : ∃ X, W3.alloc (.cells #[.string t1, .string p1] 25) = X := ⟨_, rfl⟩
  obtain ⟨g3, hg3⟩ : ∃ g, W3.heap.size = g := ⟨_, rfl⟩
  have hb23 : Below W2.heap.size W2 X3 := by rw [← hX3]; exact hb3.alloc hb3.size _
  have HP : Hid (Own2 X3 g3 25 t1 p1) := by show Own2 _ _ _ _ _; rw [← hX3, ← hg3]; exact Own2.new _ _ _ _
  have HB3 := Lib.hid (below_step HB2.out hb23)
  have HOWN3 := Lib.hid (HOWN.out.below hb23)
  have HRB3 := Lib.hid (HRB2.out.below hb23)
  clear ht1 hp1 hk hok hb3 hb23 HB2 HOWN HRB2
  go_wp2_with fail
  refine (refTake_any (some ⟨g1, 0, none⟩) n cap (byt t) X3 HLN.out (by omega) (by omega) (fun h => by cases h) HBY.out HRB3.out).mono ?_
  rintro e W4 ⟨t2, p2, ht2, hp2, rfl, hb4⟩
  rw [HK.out, HOK.out]
  obtain rfl : t1 = t2 := byt_inj (by rw [HT1.out, ht2])
  obtain rfl : p1 = p2 := byt_inj (by rw [HP1.out, hp2])
  obtain ⟨X4, hX4⟩ : ∃ X, W4.alloc (.cells #[.string t1, .string p1] 38) = X := ⟨_, rfl⟩
  obtain ⟨g4, hg4⟩ : ∃ g, W4.heap.size = g := ⟨_, rfl⟩
  have hb34 : Below X3.heap.size X3 X4 := by rw [← hX4]; exact hb4.alloc hb4.size _
  have HQ : Hid (Own2 X4 g4 38 t1 p1) := by show Own2 _ _ _ _ _; rw [← hX4, ← hg4]; exact Own2.new _ _ _ _
  have HP4 := Lib.hid (HP.out.below hb34)
  have HB4 := Lib.hid (below_step HB3.out hb34)
  have HOWN4 := Lib.hid (HOWN3.out.below hb34)
  have HRB4 := Lib.hid (HRB3.out.below hb34)
  clear ht2 hp2 hb4 hb34 HB3 HOWN3 HRB3 HP hX3 hg3 HT1 HP1 HK HOK
  go_wp2_with fail
  refine (takeAlias_any (some ⟨g2, 0, none⟩) n (n + 3) (byt t) X4 HLN.out (by omega) (by omega) (fun h => by cases h) HBY.out (lnd_rd HOWN4.out)).mono ?_
  rintro e W5 ⟨s1, hs1, rfl, hb5⟩
  obtain ⟨m, hm⟩ : ∃ m, (aliasF (byt t)).2.1 = m := ⟨_, rfl⟩
  obtain ⟨has, hhas⟩ : ∃ b, (aliasF (byt t)).2.2 = b := ⟨_, rfl⟩
  rw [hm, hhas]
  have HS1 := Lib.hid hs1
  have HM := Lib.hid hm
  have HHAS := Lib.hid hhas
  have HQ5 := Lib.hid (HQ.out.below hb5)
  have HP5 := Lib.hid (HP4.out.below hb5)
  have HB5 := Lib.hid (below_step HB4.out hb5)
  have HOWN5 := Lib.hid (HOWN4.out.below hb5)
  have HRB5 := Lib.hid (HRB4.out.below hb5)
  clear hs1 hm hhas hb5 HB4 HOWN4 HRB4 HP4 HQ hX4 hg4
  go_wp2_with fail
  refine (refAlias_any (some ⟨g1, 0, none⟩) n cap (byt t) W5 HLN.out (by omega) (by omega) (fun h => by cases h) HBY.out HRB5.out).mono ?_
  rintro e W6 ⟨s2, hs2, rfl, hb6⟩
  rw [HM.out, HHAS.out]
  obtain rfl : s1 = s2 := byt_inj (by rw [HS1.out, hs2])
  have HQ6 := Lib.hid (HQ5.out.below hb6)
  have HP6 := Lib.hid (HP5.out.below hb6)
  have HB6 := Lib.hid (below_step HB5.out hb6)
  have HOWN6 := Lib.hid (HOWN5.out.below hb6)
  have HRB6 := Lib.hid (HRB5.out.below hb6)
  clear hs2 hb6 HB5 HOWN5 HRB5 HP5 HQ5 HS1 HM HHAS
  go_wp2_with fail
  refine (text_any a3 10 W6 (by omega) w3).mono ?_
  rintro e w1 ⟨ta, hta, htas, rfl, rfl⟩
  clear hta
  go_wp2_with fail
  refine (text_any a4 10 W6 (by omega) w4).mono ?_
  rintro e w1 ⟨tt, htt, htts, rfl, rfl⟩
  clear htt
  have pc0 := HP6.out.c0
  have pc1 := HP6.out.c1
  have qc0 := HQ6.out.c0
  have qc1 := HQ6.out.c1
  go_wp2_with fail
  refine (validTag_any t (by unfold maxLen; omega) W6).mono ?_
  rintro e w1 ⟨rfl, rfl⟩
  obtain ⟨vt, hvt⟩ : ∃ b, validF (byt t) = b := ⟨_, rfl⟩
  rw [hvt]
  have HVT := Lib.hid hvt
  clear hvt
  go_wp2_with fail
  refine (refValid_any t (by unfold maxLen; omega) W6).mono ?_
  rintro e w1 ⟨rfl, rfl⟩
  rw [HVT.out]
  clear pc0 pc1 qc0 qc1
  go_wp2_with fail
  refine (put_any tt ta (by omega) (by omega) W6).mono ?_
  rintro e W7 ⟨r1, hr1, rfl, hb7⟩
  have HR1 := Lib.hid hr1
  have HB7 := Lib.hid (below_step HB6.out hb7)
  have HOWN7 := Lib.hid (HOWN6.out.below hb7)
  have HRB7 := Lib.hid (HRB6.out.below hb7)
  clear hr1 hb7 HB6 HOWN6 HRB6 HP6 HQ6
  go_wp2_with fail
  refine (refPut_any tt ta (by omega) (by omega) W7).mono ?_
  rintro e W8 ⟨r2, hr2, rfl, hb8⟩
  obtain rfl : r1 = r2 := byt_inj (by rw [HR1.out, hr2])
  have HB8 := Lib.hid (below_step HB7.out hb8)
  have HOWN8 := Lib.hid (HOWN7.out.below hb8)
  have HRB8 := Lib.hid (HRB7.out.below hb8)
  clear hr2 hb8 HB7 HOWN7 HRB7 HR1
  go_wp2_with fail
  refine (intact_any (some ⟨g1, 0, none⟩) n cap g2 (byt t) W8 HLN.out (by omega) HRB8.out HOWN8.out).mono ?_
  rintro e W9 ⟨rfl, hb9⟩
  have HB9 := Lib.hid (below_step HB8.out hb9)
  clear hb9
  go_wp2_with fail
  refine (wakes_at HB9.out).mono ?_
  rintro e W10 ⟨rfl, hb10⟩
  have HB10 := Lib.hid hb10
  clear hb10
  go_wp2_with fail
  go_ret
  exact ⟨rfl, HB10.out⟩


set_option maxRecDepth 100000 in
theorem lifted (os : Os) (started : os.Started) (H : Type) (enc : TypeId × Value → H) :
    ReturnsInHanded {} Try.checked os 5 .any (Rows.propsTellSpec.pre6 enc Try.prog Try.f5 Rows.propsTellRow.domain false) (Rows.propsTellSpec.post enc Try.prog Try.f5 false true false false) := by
  refine returnsInHanded_of_change (C := Try.checked) own started (by kernel_rfl) Try.func5
    (ChangeSpec.witness6 (enc := enc) (C := Try.checked) false ⟨#[], #[.string ByteArray.empty, .slice none 0 0, .bool false, .string ByteArray.empty, .string ByteArray.empty], []⟩ 8 (by kernel_rfl) (by kernel_rfl) (by kernel_rfl) (by kernel_rfl)) ?_
  intro W base args ds gs before hval0 hW hcnd _
  have hval : ∀ (j : Nat) t v, Try.f5.params[j]? = some t → args[j]? = some v → Value.okWide Try.prog W .any base t v := hval0
  have hW' := hW
  obtain ⟨p, q, hA0, hV, rfl, hfz, hnd⟩ := hW
  have hA : DataW.TrodAll enc Try.prog W 0 (fun _ => true) true Try.f5.params.toList args.toList ds p := hA0
  rw [Try.params5] at hA hval
  obtain ⟨v0, vs0, d0, ds0, p0, q0, hargs, rfl, rfl, h0, r0⟩ := trodAll_cons hA
  obtain ⟨v1, vs1, d1, ds1, p1, q1, rfl, rfl, rfl, h1, r1⟩ := trodAll_cons r0
  obtain ⟨v2, vs2, d2, ds2, p2, q2, rfl, rfl, rfl, h2, r2⟩ := trodAll_cons r1
  obtain ⟨v3, vs3, d3, ds3, p3, q3, rfl, rfl, rfl, h3, r3⟩ := trodAll_cons r2
  obtain ⟨v4, vs4, d4, ds4, p4, q4, rfl, rfl, rfl, h4, r4⟩ := trodAll_cons r3
  obtain ⟨rfl, rfl, rfl⟩ := trodAll_nil r4
  obtain rfl : args = #[v0, v1, v2, v3, v4] := by cases args; simp_all
  obtain ⟨rfl, rfl⟩ := trodVars_none hV
  obtain ⟨a0, rfl, rfl, rfl, w0⟩ := open_string Try.underlying9 (hval 0 9 v0 rfl rfl) h0
  obtain ⟨a1, len1, cap1, rfl⟩ := okWide_slice Try.underlying35 (hval 1 35 v1 rfl rfl)
  have k1 := h1
  have lt1 : ∀ x ∈ p1, x.block < W.heap.size := by obtain ⟨m, hm⟩ := k1; exact DataW.trod_lt m _ _ _ hm
  obtain ⟨z1, w1⟩ : ∃ zs, IsRow .i64 W a1 len1 cap1 zs := by
    obtain ⟨fuel, hf⟩ := h1
    rcases open_ints Try.underlying35 Try.underlying3 (by kernel_rfl) hf with ⟨hcs, _⟩ | ⟨x, l, c, zs, hcs, _, hl, hm, hz, _, hcell, hwz⟩
    · simp [Value.cells] at hcs
      obtain ⟨rfl, rfl, rfl⟩ := hcs
      exact ⟨[], .inl ⟨rfl, rfl, rfl, rfl⟩⟩
    · simp [Value.cells] at hcs
      obtain ⟨rfl, rfl, rfl⟩ := hcs
      exact ⟨zs, .inr ⟨_, rfl, hl, hm, by simpa using hz, hcell, hwz⟩⟩
  obtain ⟨a2, rfl, rfl, rfl⟩ := open_bool Try.underlying4 (hval 2 4 v2 rfl rfl) h2
  obtain ⟨a3, rfl, rfl, rfl, w3⟩ := open_string Try.underlying9 (hval 3 9 v3 rfl rfl) h3
  obtain ⟨a4, rfl, rfl, rfl, w4⟩ := open_string Try.underlying9 (hval 4 9 v4 rfl rfl) h4
  clear hA0 hval0
  refine (walk a0 a1 len1 cap1 z1 a2 a3 a4 W w0 w1 w3 w4).mono fun e W' ⟨he, bel⟩ => ?_
  subst he
  exact ⟨_, rfl, _, _, _, [], _, [], hW', trodAll_mk1 (shut_bool Try.underlying4 _), (trodAll_cons_mk (shut_string Try.underlying9 w0) (trodAll_cons_mk (Below.trod laidOut (by kernel_rfl) (of_decide_eq_true (by kernel_rfl)) k1 bel lt1) (trodAll_cons_mk (shut_bool Try.underlying4 _) (trodAll_cons_mk (shut_string Try.underlying9 w3) (trodAll_cons_mk (shut_string Try.underlying9 w4) trodAll_mk0))))), rfl, bel.frame _, fun h => by cases h⟩

theorem over : Rows.propsTellRow.holds Try.pinned (OpenSpec.ofChange Rows.propsTellSpec) :=
  OpenClaim.holds_of_wide 5 Try.f5 rfl rfl rfl rfl rfl rfl rfl ⟨rfl, rfl, rfl, rfl, rfl⟩ rfl rfl rfl rfl rfl (by kernel_rfl) Try.func5 (by kernel_rfl)
    (of_decide_eq_true (by kernel_rfl)) (by unfold Func.isWrapper; first | (rw [if_pos (by decide +kernel)]; kernel_rfl) | (rw [if_neg (by decide +kernel)]; exact ⟨rfl, rfl⟩))
    (fun os started H enc _ => lifted os started H enc)

theorem proved : Rows.PropsTellSaid := over
#print axioms proved
end Go.Proofs.Ytpmikhhnnjhiaaa.propsTell
